/- cayleylaw04.MatrixActs. -/
import Derived.Test.YthdilpaffcidmaaMLaw2
import Derived.Test.YthdilpaffcidmaaMPermV2
namespace Go.Proofs.Ythdilpaffcidmaa
open Go Go.RowKit Num

theorem shape_at (x : Nat) (hx : x < 12) : ∃ p n : Nat, (#[Value.int .i64 2, .int .i64 1, .int .i64 2, .int .i64 2, .int .i64 2, .int .i64 3, .int .i64 2, .int .i64 4, .int .i64 2, .int .i64 5, .int .i64 2, .int .i64 6, .int .i64 3, .int .i64 1, .int .i64 3, .int .i64 2, .int .i64 3, .int .i64 3, .int .i64 5, .int .i64 2, .int .i64 7, .int .i64 2, .int .i64 61, .int .i64 1] : Array Value)[x * 2]? = some (.int .i64 p) ∧
    (#[Value.int .i64 2, .int .i64 1, .int .i64 2, .int .i64 2, .int .i64 2, .int .i64 3, .int .i64 2, .int .i64 4, .int .i64 2, .int .i64 5, .int .i64 2, .int .i64 6, .int .i64 3, .int .i64 1, .int .i64 3, .int .i64 2, .int .i64 3, .int .i64 3, .int .i64 5, .int .i64 2, .int .i64 7, .int .i64 2, .int .i64 61, .int .i64 1] : Array Value)[x * 2 + 1]? = some (.int .i64 n) ∧
    modB (p : Int) = true ∧ 1 ≤ n ∧ n ≤ 6 ∧ p ≤ 61 ∧ p ^ n ≤ 64 := by
  rcases (by omega : x = 0 ∨ x = 1 ∨ x = 2 ∨ x = 3 ∨ x = 4 ∨ x = 5 ∨ x = 6 ∨ x = 7 ∨ x = 8 ∨ x = 9 ∨ x = 10 ∨ x = 11) with rfl | rfl | rfl | rfl | rfl | rfl | rfl | rfl | rfl | rfl | rfl | rfl
  · exact ⟨2, 1, rfl, rfl, fieldP_mod 0, by omega, by omega, by omega, by decide⟩
  · exact ⟨2, 2, rfl, rfl, fieldP_mod 0, by omega, by omega, by omega, by decide⟩
  · exact ⟨2, 3, rfl, rfl, fieldP_mod 0, by omega, by omega, by omega, by decide⟩
  · exact ⟨2, 4, rfl, rfl, fieldP_mod 0, by omega, by omega, by omega, by decide⟩
  · exact ⟨2, 5, rfl, rfl, fieldP_mod 0, by omega, by omega, by omega, by decide⟩
  · exact ⟨2, 6, rfl, rfl, fieldP_mod 0, by omega, by omega, by omega, by decide⟩
  · exact ⟨3, 1, rfl, rfl, fieldP_mod 1, by omega, by omega, by omega, by decide⟩
  · exact ⟨3, 2, rfl, rfl, fieldP_mod 1, by omega, by omega, by omega, by decide⟩
  · exact ⟨3, 3, rfl, rfl, fieldP_mod 1, by omega, by omega, by omega, by decide⟩
  · exact ⟨5, 2, rfl, rfl, fieldP_mod 2, by omega, by omega, by omega, by decide⟩
  · exact ⟨7, 2, rfl, rfl, fieldP_mod 3, by omega, by omega, by omega, by decide⟩
  · exact ⟨61, 1, rfl, rfl, modB_check (n := 61) 8 (by decide +kernel) (by decide +kernel) (by decide +kernel) (by decide +kernel), by omega, by omega, by omega, by decide⟩
/-- While the law draws its matrices: the taker, the shape, what lay in memory. -/
structure AW (w : World) (g : Nat) (A : Option Addr) (c N : Nat) (z : Nat → Int) (p n : Nat) (W : World) : Prop where
  tk : ∃ q, MTk W (g + 1) A c N z q
  row : Row W g 80 #[.int .i64 p, .int .i64 n]
  bel : Below w.heap.size w W
  lt : g + 1 < W.heap.size
  ge : w.heap.size ≤ g
theorem AW.alloc {w W : World} {g c N p n : Nat} {A : Option Addr} {z : Nat → Int} (h : AW w g A c N z p n W) (o : Obj) : AW w g A c N z p n (W.alloc o) := by
  obtain ⟨q, hq⟩ := h.tk
  have := h.lt
  have := h.ge
  exact ⟨⟨q, hq.but ((Below.refl _ _).alloc (Nat.le_refl _) o) h.lt⟩, h.row.alloc o, h.bel.alloc (by omega) o, by simp; omega, h.ge⟩
theorem AW.drew {w W : World} {g c N p n : Nat} {A : Option Addr} {z : Nat → Int} (h : AW w g A c N z p n W) : AW w g A c N z p n W.drew :=
  ⟨h.tk, h.row, below_drewN h.bel 1, h.lt, h.ge⟩
/-- A matrix drawn, outside the boxes X. -/
def GA (g n : Nat) (X : List Nat) (W : World) (A : Option Addr) (c : Nat) (f : Nat → Nat → Int) : Prop := Grid W (fun b => g + 1 < b ∧ b < W.heap.size ∧ b ∉ X) (.slice A n c) n (fun _ => n) f
theorem GA.alloc {g n c : Nat} {X : List Nat} {W : World} {A : Option Addr} {f : Nat → Nat → Int} (h : GA g n X W A c f) (o : Obj) : GA g n (W.heap.size :: X) (W.alloc o) A c f :=
  Grid.keep h (fun b hb => ⟨hb.1, by have := hb.2.1; simp; omega, fun hm => by
    rcases List.mem_cons.1 hm with e | e
    · have := hb.2.1; omega
    · exact hb.2.2 e⟩) (fun q hq => ((Below.refl W.heap.size W).alloc (Nat.le_refl _) o).cell hq.2.1) (fun _ _ => rfl) (fun _ _ _ _ => rfl)
theorem GA.but {g n c : Nat} {X : List Nat} {W W' : World} {A : Option Addr} {f : Nat → Nat → Int} (h : GA g n X W A c f) (hb : But (g + 1) W.heap.size W W') (hs : W.heap.size ≤ W'.heap.size) : GA g n X W' A c f :=
  Grid.keep h (fun b hb => ⟨hb.1, by have := hb.2.1; omega, hb.2.2⟩) (fun q hq => World.cell?_of_block (hb.2 q.block hq.2.1 (by have := hq.1; omega))) (fun _ _ => rfl) (fun _ _ _ _ => rfl)
theorem GA.of {g n c : Nat} (X : List Nat) {w W : World} {A : Option Addr} {f : Nat → Nat → Int} (h : Grid W (New w W) (.slice A n c) n (fun _ => n) f) (hg : g + 1 < w.heap.size) (hX : ∀ x, x ∈ X → x < w.heap.size) : GA g n X W A c f :=
  Grid.more h fun b hb => ⟨by have := hb.1; omega, hb.2, fun hm => by have := hX b hm; have := hb.1; omega⟩
/-- A box made for one. -/
def ZB (g : Nat) (W : World) (a : Nat) : Prop := Row W a 58 #[.int .i64 0, .slice none 0 0] ∧ g + 1 < a
theorem ZB.alloc {g a : Nat} {W : World} (h : ZB g W a) (o : Obj) : ZB g (W.alloc o) a := ⟨h.1.alloc o, h.2⟩
theorem ZB.but {g a : Nat} {W W' : World} (h : ZB g W a) (hb : But (g + 1) W.heap.size W W') : ZB g W' a := ⟨hb.row h.1 h.1.lt (by have := h.2; omega), h.2⟩
/-- A call of drawn has ended. -/
def DA (w : World) (g : Nat) (A : Option Addr) (c N : Nat) (z : Nat → Int) (p n : Nat) (W : World) (e : Ending) (w' : World) : Prop :=
  ∃ A' c' f, e = .returned (.agg #[.int .i64 p, .slice A' n c']) ∧ AW w g A c N z p n w' ∧ Grid w' (New W w') (.slice A' n c') n (fun _ => n) f ∧ InG p n n f ∧ But (g + 1) W.heap.size W w' ∧ W.heap.size ≤ w'.heap.size
theorem ml_two {W : World} {p : Int} {n x y c5 c11 : Nat} {A5 A11 : Option Addr} {f5 f11 : Nat → Nat → Int} (r1 : Row W x 58 #[.int .i64 p, .slice A5 n c5]) (r2 : Row W y 58 #[.int .i64 p, .slice A11 n c11])
    (g1 : Grid W (· < W.heap.size) (.slice A5 n c5) n (fun _ => n) f5) (g2 : Grid W (· < W.heap.size) (.slice A11 n c11) n (fun _ => n) f11) (i5 : InG p n n f5) (i11 : InG p n n f11) : ML W p n [⟨y, A11, c11, f11⟩, ⟨x, A5, c5, f5⟩] := fun i e hi => by
  match i, hi with
  | 0, hi => injection hi with hi; subst hi; exact ⟨r2, g2, i11⟩
  | 1, hi => injection hi with hi; subst hi; exact ⟨r1, g1, i5⟩
/-- Both matrices in their boxes. -/
theorem acts_leaf {w W : World} {g c N p n x y c5 c11 : Nat} {A A5 A11 : Option Addr} {z : Nat → Int} {X X' : List Nat} {f5 f11 : Nat → Nat → Int} (HA : AW w g A c N z p n W) (G5 : GA g n X W A5 c5 f5) (G11 : GA g n X' W A11 c11 f11) (i5 : InG p n n f5) (i11 : InG p n n f11)
    (Z1 : ZB g W x) (Z2 : ZB g W y) (ne : x ≠ y) (hx : x ∈ X ∧ x ∈ X') (hy : y ∈ X ∧ y ∈ X') :
    ML ((((W.setCell ⟨x, 0, none⟩ (.int .i64 p)).setCell ⟨x, 1, none⟩ (.slice A5 n c5)).setCell ⟨y, 0, none⟩ (.int .i64 p)).setCell ⟨y, 1, none⟩ (.slice A11 n c11)) p n [⟨y, A11, c11, f11⟩, ⟨x, A5, c5, f5⟩] ∧ Below w.heap.size w ((((W.setCell ⟨x, 0, none⟩ (.int .i64 p)).setCell ⟨x, 1, none⟩ (.slice A5 n c5)).setCell ⟨y, 0, none⟩ (.int .i64 p)).setCell ⟨y, 1, none⟩ (.slice A11 n c11)) ∧ Row ((((W.setCell ⟨x, 0, none⟩ (.int .i64 p)).setCell ⟨x, 1, none⟩ (.slice A5 n c5)).setCell ⟨y, 0, none⟩ (.int .i64 p)).setCell ⟨y, 1, none⟩ (.slice A11 n c11)) g 80 #[.int .i64 p, .int .i64 n] := by
  have hge := HA.ge
  have hx2 := Z1.2
  have hy2 := Z2.2
  have hs : ((((W.setCell ⟨x, 0, none⟩ (.int .i64 p)).setCell ⟨x, 1, none⟩ (.slice A5 n c5)).setCell ⟨y, 0, none⟩ (.int .i64 p)).setCell ⟨y, 1, none⟩ (.slice A11 n c11)).heap.size = W.heap.size := by rw [size_set, size_set, size_set, size_set]
  have b4 : Below w.heap.size w ((((W.setCell ⟨x, 0, none⟩ (.int .i64 p)).setCell ⟨x, 1, none⟩ (.slice A5 n c5)).setCell ⟨y, 0, none⟩ (.int .i64 p)).setCell ⟨y, 1, none⟩ (.slice A11 n c11)) := (((HA.bel.setCell (p := ⟨x, 0, none⟩) (by show _ ≤ x; omega) _).setCell (p := ⟨x, 1, none⟩) (by show _ ≤ x; omega) _).setCell (p := ⟨y, 0, none⟩) (by show _ ≤ y; omega) _).setCell (p := ⟨y, 1, none⟩) (by show _ ≤ y; omega) _
  have r4 : Row ((((W.setCell ⟨x, 0, none⟩ (.int .i64 p)).setCell ⟨x, 1, none⟩ (.slice A5 n c5)).setCell ⟨y, 0, none⟩ (.int .i64 p)).setCell ⟨y, 1, none⟩ (.slice A11 n c11)) g 80 #[.int .i64 p, .int .i64 n] := (((HA.row.far (p := ⟨x, 0, none⟩) (by show g ≠ x; omega) _).far (p := ⟨x, 1, none⟩) (by show g ≠ x; omega) _).far (p := ⟨y, 0, none⟩) (by show g ≠ y; omega) _).far (p := ⟨y, 1, none⟩) (by show g ≠ y; omega) _
  have r2 : Row ((((W.setCell ⟨x, 0, none⟩ (.int .i64 p)).setCell ⟨x, 1, none⟩ (.slice A5 n c5)).setCell ⟨y, 0, none⟩ (.int .i64 p)).setCell ⟨y, 1, none⟩ (.slice A11 n c11)) y 58 #[.int .i64 p, .slice A11 n c11] := ((Z2.1.far (p := ⟨x, 0, none⟩) (Ne.symm ne) _).far (p := ⟨x, 1, none⟩) (Ne.symm ne) _).row_set _ _
  have r1 : Row ((((W.setCell ⟨x, 0, none⟩ (.int .i64 p)).setCell ⟨x, 1, none⟩ (.slice A5 n c5)).setCell ⟨y, 0, none⟩ (.int .i64 p)).setCell ⟨y, 1, none⟩ (.slice A11 n c11)) x 58 #[.int .i64 p, .slice A5 n c5] := ((Z1.1.row_set _ _).far (p := ⟨y, 0, none⟩) ne _).far (p := ⟨y, 1, none⟩) ne _
  have g2 := ((Grid.set2 G11 (R := x) (fun h => h.2.2 hx.2) (.int .i64 p) (.slice A5 n c5)).set2 (R := y) (fun h => h.2.2 hy.2) (.int .i64 p) (.slice A11 n c11)).more (S' := (· < ((((W.setCell ⟨x, 0, none⟩ (.int .i64 p)).setCell ⟨x, 1, none⟩ (.slice A5 n c5)).setCell ⟨y, 0, none⟩ (.int .i64 p)).setCell ⟨y, 1, none⟩ (.slice A11 n c11)).heap.size)) fun b hb => by rw [hs]; exact hb.2.1
  have g1 := ((Grid.set2 G5 (R := x) (fun h => h.2.2 hx.1) (.int .i64 p) (.slice A5 n c5)).set2 (R := y) (fun h => h.2.2 hy.1) (.int .i64 p) (.slice A11 n c11)).more (S' := (· < ((((W.setCell ⟨x, 0, none⟩ (.int .i64 p)).setCell ⟨x, 1, none⟩ (.slice A5 n c5)).setCell ⟨y, 0, none⟩ (.int .i64 p)).setCell ⟨y, 1, none⟩ (.slice A11 n c11)).heap.size)) fun b hb => by rw [hs]; exact hb.2.1
  exact ⟨ml_two r1 r2 g1 g2 i5 i11, b4, r4⟩
theorem drawn_aw {w W : World} {g c N p n : Nat} {A : Option Addr} {z : Nat → Int} (hs : Sized p n) (hN : N ≤ 17592186044400) (h : AW w g A c N z p n W) :
    Calls Try.prog 81 #[.pointer (some ⟨g + 1, 0, none⟩), .int .i64 n, .int .i64 p] W (DA w g A c N z p n W) := by
  obtain ⟨q, hq⟩ := h.tk
  have hp := (modB_true hs.hp).2.1
  refine (drawn_any (g + 1) A c N z q n p W hN hs.n2 hs.p2 (by omega) hq).mono ?_
  rintro e w' ⟨r, f, q', rfl, hg, hf, hT, hb, hsz⟩
  obtain ⟨A', c', rfl, -⟩ := hg.form
  have hlt := h.lt
  exact ⟨A', c', f, rfl, ⟨⟨q', hT⟩, hb.row h.row (by omega) (by omega), h.bel.trans (hb.1.mono (by have := h.ge; omega)), by omega, h.ge⟩, hg, hf, hb, hsz⟩
/-- Behind the drawing of both. -/
def ActsMid (w : World) (g p n : Nat) (s7 s8 : Value) (wx : World) : Prop := ∃ a b Aa ca Ab cb fa fb, s7 = .pointer (some ⟨a, 0, none⟩) ∧ s8 = .pointer (some ⟨b, 0, none⟩) ∧ ML wx p n [⟨b, Ab, cb, fb⟩, ⟨a, Aa, ca, fa⟩] ∧ Below w.heap.size w wx ∧ Row wx g 80 #[.int .i64 p, .int .i64 n]
theorem permL0 {p n : Nat} (hs : Sized p n) {W : World} {L : List MatE} (h : ML W (p : Int) n L) (i : Nat) {x : MatE} (hi : L[i]? = some x) (hpn : p ^ n ≤ 64) (hd : detV p n x.f = 0) :
    Calls Try.prog 66 #[.agg #[.int .i64 p, .slice x.A n x.c]] W fun e w' => e = .returned (.tuple #[.slice none 0 0, .int .i64 15]) ∧ Below W.heap.size W w' := by
  obtain ⟨_, g1, f1⟩ := h i x hi
  exact (Perm_ok _ p n x.f W hs g1 f1).mono fun e w' h => ⟨h.2.2.1 hpn hd, h.1⟩
theorem permL1 {p n : Nat} (hs : Sized p n) {W : World} {L : List MatE} (h : ML W (p : Int) n L) (i : Nat) {x : MatE} (hi : L[i]? = some x) {M : Nat} (hM : p ^ n = M) (hpn : M ≤ 64) (hd : detV p n x.f ≠ 0) :
    Calls Try.prog 66 #[.agg #[.int .i64 p, .slice x.A n x.c]] W fun e w' => ∃ A c, e = .returned (.tuple #[.slice A M c, .int .i64 0]) ∧ Vec w' (· < w'.heap.size) (.slice A M c) M (natF (permV p n x.f)) ∧ Below W.heap.size W w' := by
  subst hM
  obtain ⟨_, g1, f1⟩ := h i x hi
  refine (Perm_ok _ p n x.f W hs g1 f1).mono fun e w' h => ?_
  obtain ⟨r, rfl, hv⟩ := h.2.2.2 hpn hd
  obtain ⟨A, c, rfl, -⟩ := hv.form
  exact ⟨A, c, rfl, hv.new_lt, h.1⟩

set_option maxRecDepth 100000 in
set_option maxHeartbeats 16000000 in
theorem matrixActs_main (A : Option Addr) (c N : Nat) (z : Nat → Int) (k0 : Int) (w : World) (hv : Vec w (· < w.heap.size) (.slice A N c) N z) :
    Calls Try.prog 14 #[.slice A N c, .int .i64 k0] w fun e w' => e = .returned (.bool true) ∧ Below w.heap.size w w' := by
  have HV := Lib.hid hv
  clear hv
  by_cases hmost : 60 < N
  · have hd : decide ((60 : Int) < (N : Int)) = true := decide_eq_true (by omega)
    clear HV
    go_enter Try.func14, Try.ntmps14
    go_wp2_with fail
    refine (lives_any _).mono ?_
    rintro e w0 ⟨rfl, hb⟩
    have HB := Lib.hid hb
    clear hb
    go_wp2_with fail
    go_ret
    exact ⟨rfl, HB.out⟩
  · have hN : N ≤ 17592186044400 := by omega
    have hd : decide ((60 : Int) < (N : Int)) = false := decide_eq_false (by omega)
    have HP := fun W => Lib.hid (Pick_any k0 12 W (by omega) (by omega))
    have hlt := resV_lt k0 (p := 12) (by omega)
    generalize resV k0 12 = x at HP hlt
    obtain ⟨p, n, ha0, ha1, hmod, hn1, hn6, hp61, hpn⟩ := shape_at x hlt
    have HS := Lib.hid (show Sized p n from ⟨hmod, hn1, by omega⟩)
    have hp2 := HS.out.p2
    have HPN := Lib.hid hpn
    clear hmod hpn
    go_enter Try.func14, Try.ntmps14
    go_wp2_with fail
    refine (lives_any _).mono ?_
    rintro e w0 ⟨rfl, hb⟩
    have HB0 := Lib.hid hb
    have HV0 := Lib.hid (HV.out.on hb)
    clear hb HV
    go_wp2_with fail
    refine (HP _).out.mono ?_
    rintro e w1 ⟨rfl, hw1⟩
    generalize htab : (#[Value.int .i64 2, .int .i64 1, .int .i64 2, .int .i64 2, .int .i64 2, .int .i64 3, .int .i64 2, .int .i64 4, .int .i64 2, .int .i64 5, .int .i64 2, .int .i64 6, .int .i64 3, .int .i64 1, .int .i64 3, .int .i64 2, .int .i64 3, .int .i64 3, .int .i64 5, .int .i64 2, .int .i64 7, .int .i64 2, .int .i64 61, .int .i64 1] : Array Value) = tab at ha0 ha1 hw1
    have hr := row_new (W := w0) rfl 80 tab
    rw [← hw1] at hr
    have hb1 : Below w.heap.size w w1 := by rw [hw1]; exact HB0.out.alloc HB0.out.size _
    have hv1 : Vec w1 (· < w1.heap.size) (.slice A N c) N z := by rw [hw1]; exact HV0.out.on ((Below.refl _ _).alloc (Nat.le_refl _) _)
    have kk0 := hr.cell ha0
    have kk1 := hr.cell ha1
    have hlb := hr.lt
    generalize w0.heap.size = b0 at kk0 kk1 hlb ⊢
    have HB1 := Lib.hid hb1
    have HV1 := Lib.hid hv1
    clear hw1 hr hb1 hv1 HB0 HV0 HP ha0 ha1 htab
    go_upto_region 7 with fail
    generalize hg0 : w1.heap.size = g
    have hrg : Row ((w1.alloc (.cells #[.int .i64 p, .int .i64 n] 80)).alloc (.cells #[.slice A N c, .int .i64 0] 50)) g 80 #[.int .i64 p, .int .i64 n] := (row_new hg0 _ _).alloc _
    have hT : MTk ((w1.alloc (.cells #[.int .i64 p, .int .i64 n] 80)).alloc (.cells #[.slice A N c, .int .i64 0] 50)) (g + 1) A c N z 0 := by
      have := taker_new (w1.alloc (.cells #[.int .i64 p, .int .i64 n] 80)) A c N z (HV1.out.on ((Below.refl _ _).alloc (Nat.le_refl _) _))
      rwa [show (w1.alloc (.cells #[.int .i64 p, .int .i64 n] 80)).heap.size = g + 1 by simp [hg0]] at this
    have hB2 : Below w.heap.size w ((w1.alloc (.cells #[.int .i64 p, .int .i64 n] 80)).alloc (.cells #[.slice A N c, .int .i64 0] 50)) := (HB1.out.alloc HB1.out.size _).alloc (by have := HB1.out.size; simp; omega) _
    have hgw : w.heap.size ≤ g := by have := HB1.out.size; omega
    generalize (w1.alloc (.cells #[.int .i64 p, .int .i64 n] 80)).alloc (.cells #[.slice A N c, .int .i64 0] 50) = w3 at hrg hT hB2 ⊢
    have HG3 := Lib.hid hrg
    have HT3 := Lib.hid hT
    have HB3 := Lib.hid hB2
    have hgt : g + 1 < w3.heap.size := hT.1.lt
    clear hrg hT hB2 hg0 HB1 HV1 kk0 kk1 hlb
    go_cut [7, 8] from 50 to 61 (fun s7 s8 wx => ActsMid w g p n s7 s8 wx)
    case first =>
      have HA0' := (show AW w g A c N z p n w3 from ⟨⟨0, HT3.out⟩, HG3.out, HB3.out, hgt, hgw⟩).drew
      have HCD := Lib.hid (fun W (h : AW w g A c N z p n W) => drawn_aw HS.out hN h)
      clear HG3 HT3 HB3
      refine wp_region_held_drew (S := (fun W => W.cell? ⟨g, 0, none⟩ = some (.int .i64 p) ∧ W.cell? ⟨g, 1, none⟩ = some (.int .i64 n))) (by kernel_rfl) ⟨HA0'.row.cell (i := 0) rfl, HA0'.row.cell (i := 1) rfl⟩ (fun hHeld => ?_)
      generalize w3.drew = W0 at HA0' hHeld ⊢
      have HA0 := Lib.hid HA0'
      clear HA0'
      refine takeH (i := 0) (v := (.pointer (some ⟨g + 1, 0, none⟩))) rfl rfl (by kernel_rfl) (by kernel_rfl) (by kernel_rfl) (fun _ _ _ h => h) (by rfl) (fun W hW => by (skip); go_simp) (by assumption) ?_
      simp only [List.setIfInBounds_toArray, List.set_cons_zero, List.set_cons_succ]
      refine takeH (i := 1) (v := (.pointer (some ⟨g, 1, none⟩))) rfl rfl (by kernel_rfl) (by kernel_rfl) (by kernel_rfl) (fun _ _ _ h => h) (by rfl) (fun W hW => by (skip); go_simp) (by assumption) ?_
      simp only [List.setIfInBounds_toArray, List.set_cons_zero, List.set_cons_succ]
      refine takeH (i := 2) (v := (.int .i64 n)) rfl rfl (by kernel_rfl) (by kernel_rfl) (by kernel_rfl) (fun _ _ _ h => h) (by rfl) (fun W hW => by (obtain ⟨q0, q1⟩ := hW); go_simp) (by assumption) ?_
      simp only [List.setIfInBounds_toArray, List.set_cons_zero, List.set_cons_succ]
      refine takeH (i := 3) (v := (.pointer (some ⟨g, 0, none⟩))) rfl rfl (by kernel_rfl) (by kernel_rfl) (by kernel_rfl) (fun _ _ _ h => h) (by rfl) (fun W hW => by (skip); go_simp) (by assumption) ?_
      simp only [List.setIfInBounds_toArray, List.set_cons_zero, List.set_cons_succ]
      refine takeH (i := 4) (v := (.int .i64 p)) rfl rfl (by kernel_rfl) (by kernel_rfl) (by kernel_rfl) (fun _ _ _ h => h) (by rfl) (fun W hW => by (obtain ⟨q0, q1⟩ := hW); go_simp) (by assumption) ?_
      simp only [List.setIfInBounds_toArray, List.set_cons_zero, List.set_cons_succ]
      refine takeH (i := 6) (v := (.pointer (some ⟨g + 1, 0, none⟩))) rfl rfl (by kernel_rfl) (by kernel_rfl) (by kernel_rfl) (fun _ _ _ h => h) (by rfl) (fun W hW => by (skip); go_simp) (by assumption) ?_
      simp only [List.setIfInBounds_toArray, List.set_cons_zero, List.set_cons_succ]
      refine takeH (i := 7) (v := (.pointer (some ⟨g, 1, none⟩))) rfl rfl (by kernel_rfl) (by kernel_rfl) (by kernel_rfl) (fun _ _ _ h => h) (by rfl) (fun W hW => by (skip); go_simp) (by assumption) ?_
      simp only [List.setIfInBounds_toArray, List.set_cons_zero, List.set_cons_succ]
      refine takeH (i := 8) (v := (.int .i64 n)) rfl rfl (by kernel_rfl) (by kernel_rfl) (by kernel_rfl) (fun _ _ _ h => h) (by rfl) (fun W hW => by (obtain ⟨q0, q1⟩ := hW); go_simp) (by assumption) ?_
      simp only [List.setIfInBounds_toArray, List.set_cons_zero, List.set_cons_succ]
      refine takeH (i := 9) (v := (.pointer (some ⟨g, 0, none⟩))) rfl rfl (by kernel_rfl) (by kernel_rfl) (by kernel_rfl) (fun _ _ _ h => h) (by rfl) (fun W hW => by (skip); go_simp) (by assumption) ?_
      simp only [List.setIfInBounds_toArray, List.set_cons_zero, List.set_cons_succ]
      refine takeH (i := 10) (v := (.int .i64 p)) rfl rfl (by kernel_rfl) (by kernel_rfl) (by kernel_rfl) (fun _ _ _ h => h) (by rfl) (fun W hW => by (obtain ⟨q0, q1⟩ := hW); go_simp) (by assumption) ?_
      simp only [List.setIfInBounds_toArray, List.set_cons_zero, List.set_cons_succ]
      refine wpAnyH_ready (rs := [5, 12, 13]) (by kernel_rfl) (by simp) ?_
      refine (AllReadyH.cons rfl (fun K hK => ?_) (AllReadyH.cons rfl (fun K hK => ?_) (AllReadyH.cons rfl (fun K hK => ?_) AllReadyH.nil)))
      · go_simp
        go_at_call 81
        refine (HCD.out _ HA0.out).mono ?_
        rintro e W1 ⟨A5, c5, f5, rfl, HA1', hgr, hin5, hbt, hsz⟩
        have HI5 := Lib.hid hin5
        have g5_1' := GA.of (g := g) [] hgr HA0.out.lt (fun x hx => by simp at hx)
        refine hK.out _ _ ⟨HA1'.row.cell (i := 0) rfl, HA1'.row.cell (i := 1) rfl⟩ (fun hHeld => ?_)
        clear hK K hbt hsz hgr hin5
        try simp only [Act.put, List.setIfInBounds_toArray, List.set_cons_zero, List.set_cons_succ]
        have HA1 := Lib.hid HA1'
        have g5_1 := Lib.hid g5_1'
        clear HA1' g5_1' HA0 
        refine wpAnyH_ready (rs := [11, 12, 13]) (by kernel_rfl) (by simp) ?_
        refine (AllReadyH.cons rfl (fun K hK => ?_) (AllReadyH.cons rfl (fun K hK => ?_) (AllReadyH.cons rfl (fun K hK => ?_) AllReadyH.nil)))
        · go_simp
          go_at_call 81
          refine (HCD.out _ HA1.out).mono ?_
          rintro e W2 ⟨A11, c11, f11, rfl, HA2', hgr, hin11, hbt, hsz⟩
          have HI11 := Lib.hid hin11
          have g11_2' := GA.of (g := g) [] hgr HA1.out.lt (fun x hx => by simp at hx)
          have g5_2' := g5_1.out.but hbt hsz
          refine hK.out _ _ ⟨HA2'.row.cell (i := 0) rfl, HA2'.row.cell (i := 1) rfl⟩ (fun hHeld => ?_)
          clear hK K hbt hsz hgr hin11
          try simp only [Act.put, List.setIfInBounds_toArray, List.set_cons_zero, List.set_cons_succ]
          have HA2 := Lib.hid HA2'
          have g5_2 := Lib.hid g5_2'
          have g11_2 := Lib.hid g11_2'
          clear HA2' g5_2' g11_2' HA1 g5_1
          refine wpAnyH_ready (rs := [12, 13]) (by kernel_rfl) (by simp) ?_
          refine (AllReadyH.cons rfl (fun K hK => ?_) (AllReadyH.cons rfl (fun K hK => ?_) AllReadyH.nil))
          · go_simp
            have HA3' := HA2.out.alloc (.cells #[.int .i64 0, .slice none 0 0] 58)
            have g5_3' := g5_2.out.alloc (.cells #[.int .i64 0, .slice none 0 0] 58)
            have g11_3' := g11_2.out.alloc (.cells #[.int .i64 0, .slice none 0 0] 58)
            have z12_3' : ZB g (W2.alloc (.cells #[.int .i64 0, .slice none 0 0] 58)) W2.heap.size := ⟨row_new rfl _ _, HA2.out.lt⟩
            refine hK.out _ _ ⟨HA3'.row.cell (i := 0) rfl, HA3'.row.cell (i := 1) rfl⟩ (fun hHeld => ?_)
            clear hK K
            try simp only [Act.put, List.setIfInBounds_toArray, List.set_cons_zero, List.set_cons_succ]
            generalize W2.alloc (.cells #[.int .i64 0, .slice none 0 0] 58) = W3 at HA3' g5_3' g11_3' z12_3' hHeld ⊢
            generalize W2.heap.size = xz12 at z12_3' g5_3' g11_3' ⊢
            have HA3 := Lib.hid HA3'
            have g5_3 := Lib.hid g5_3'
            have g11_3 := Lib.hid g11_3'
            have z12_3 := Lib.hid z12_3'
            clear HA3' g5_3' g11_3' z12_3' HA2 g5_2 g11_2
            refine wpAnyH_ready (rs := [13]) (by kernel_rfl) (by simp) ?_
            refine (AllReadyH.cons rfl (fun K hK => ?_) AllReadyH.nil)
            · go_simp
              have HA4' := HA3.out.alloc (.cells #[.int .i64 0, .slice none 0 0] 58)
              have g5_4' := g5_3.out.alloc (.cells #[.int .i64 0, .slice none 0 0] 58)
              have g11_4' := g11_3.out.alloc (.cells #[.int .i64 0, .slice none 0 0] 58)
              have z12_4' := z12_3.out.alloc (.cells #[.int .i64 0, .slice none 0 0] 58)
              have z13_4' : ZB g (W3.alloc (.cells #[.int .i64 0, .slice none 0 0] 58)) W3.heap.size := ⟨row_new rfl _ _, HA3.out.lt⟩
              have ne : xz12 ≠ W3.heap.size := by have := z12_3.out.1.lt; omega
              refine hK.out _ _ ⟨HA4'.row.cell (i := 0) rfl, HA4'.row.cell (i := 1) rfl⟩ (fun hHeld => ?_)
              clear hK K
              try simp only [Act.put, List.setIfInBounds_toArray, List.set_cons_zero, List.set_cons_succ]
              generalize W3.alloc (.cells #[.int .i64 0, .slice none 0 0] 58) = W4 at HA4' g5_4' g11_4' z12_4' z13_4' hHeld ⊢
              generalize W3.heap.size = xz13 at z13_4' g5_4' g11_4' ne ⊢
              have HA4 := Lib.hid HA4'
              have g5_4 := Lib.hid g5_4'
              have g11_4 := Lib.hid g11_4'
              have z12_4 := Lib.hid z12_4'
              have z13_4 := Lib.hid z13_4'
              clear HA4' g5_4' g11_4' z12_4' z13_4' HA3 g5_3 g11_3 z12_3
              obtain ⟨hL1, hL2, hL3⟩ := acts_leaf HA4.out g5_4.out g11_4.out HI5.out HI11.out z12_4.out z13_4.out ne (by simp) (by simp)
              have nn : xz12 ≠ xz13 := ne
              have HE := Lib.hid (show ActsMid w g p n (.pointer (some ⟨xz12, 0, none⟩)) (.pointer (some ⟨xz13, 0, none⟩)) _ from ⟨_, _, _, _, _, _, _, _, rfl, rfl, hL1, hL2, hL3⟩)
              have r0 := z12_4.out.1.cell (i := 0) rfl
              have r1 := z12_4.out.1.cell (i := 1) rfl
              have y0 := z12_4.out.1.frozen 0
              have y1 := z12_4.out.1.frozen 1
              have hk2 := (HA4.out.row.far (p := ⟨xz12, 0, none⟩) (by show g ≠ xz12; have := z12_4.out.2; omega) (.int .i64 p)).far (p := ⟨xz12, 1, none⟩) (by show g ≠ xz12; have := z12_4.out.2; omega) (.slice A5 n c5)
              have hz2 := ((z13_4.out.1.far (p := ⟨xz12, 0, none⟩) (Ne.symm nn) (.int .i64 p)).far (p := ⟨xz12, 1, none⟩) (Ne.symm nn) (.slice A5 n c5))
              have hgz : g ≠ xz13 := by have := z13_4.out.2; omega
              clear hL1 hL2 hL3 HA4 g5_4 g11_4 z12_4 z13_4 HI5 HI11
              refine wpAnyH_ready (rs := [14]) (by kernel_rfl) (by simp) ?_
              refine (AllReadyH.cons rfl (fun K hK => ?_) AllReadyH.nil)
              go_simp
              refine hK.out _ _ ⟨hk2.cell (i := 0) rfl, hk2.cell (i := 1) rfl⟩ (fun hHeld => ?_)
              clear hK K r0 r1 y0 y1
              try simp only [Act.put, List.setIfInBounds_toArray, List.set_cons_zero, List.set_cons_succ]
              have r0 := hz2.cell (i := 0) rfl
              have r1 := hz2.cell (i := 1) rfl
              have y0 := hz2.frozen 0
              have y1 := hz2.frozen 1
              have hk3 := (hk2.far (p := ⟨xz13, 0, none⟩) hgz (.int .i64 p)).far (p := ⟨xz13, 1, none⟩) hgz (.slice A11 n c11)
              refine wpAnyH_ready (rs := [15]) (by kernel_rfl) (by simp) ?_
              refine (AllReadyH.cons rfl (fun K hK => ?_) AllReadyH.nil)
              go_simp
              refine hK.out _ _ ⟨hk3.cell (i := 0) rfl, hk3.cell (i := 1) rfl⟩ (fun hHeld => ?_)
              clear hK K r0 r1 y0 y1 hk2 hk3 hz2
              try simp only [Act.put, List.setIfInBounds_toArray, List.set_cons_zero, List.set_cons_succ]
              refine wpAnyH_done (by kernel_rfl) ?_ _
              go_wp2_with fail
              go_meet
              exact HE.out
          · go_simp
            have HA5' := HA2.out.alloc (.cells #[.int .i64 0, .slice none 0 0] 58)
            have g5_5' := g5_2.out.alloc (.cells #[.int .i64 0, .slice none 0 0] 58)
            have g11_5' := g11_2.out.alloc (.cells #[.int .i64 0, .slice none 0 0] 58)
            have z13_5' : ZB g (W2.alloc (.cells #[.int .i64 0, .slice none 0 0] 58)) W2.heap.size := ⟨row_new rfl _ _, HA2.out.lt⟩
            refine hK.out _ _ ⟨HA5'.row.cell (i := 0) rfl, HA5'.row.cell (i := 1) rfl⟩ (fun hHeld => ?_)
            clear hK K
            try simp only [Act.put, List.setIfInBounds_toArray, List.set_cons_zero, List.set_cons_succ]
            generalize W2.alloc (.cells #[.int .i64 0, .slice none 0 0] 58) = W5 at HA5' g5_5' g11_5' z13_5' hHeld ⊢
            generalize W2.heap.size = xz13 at z13_5' g5_5' g11_5' ⊢
            have HA5 := Lib.hid HA5'
            have g5_5 := Lib.hid g5_5'
            have g11_5 := Lib.hid g11_5'
            have z13_5 := Lib.hid z13_5'
            clear HA5' g5_5' g11_5' z13_5' HA2 g5_2 g11_2
            refine wpAnyH_ready (rs := [12]) (by kernel_rfl) (by simp) ?_
            refine (AllReadyH.cons rfl (fun K hK => ?_) AllReadyH.nil)
            · go_simp
              have HA6' := HA5.out.alloc (.cells #[.int .i64 0, .slice none 0 0] 58)
              have g5_6' := g5_5.out.alloc (.cells #[.int .i64 0, .slice none 0 0] 58)
              have g11_6' := g11_5.out.alloc (.cells #[.int .i64 0, .slice none 0 0] 58)
              have z13_6' := z13_5.out.alloc (.cells #[.int .i64 0, .slice none 0 0] 58)
              have z12_6' : ZB g (W5.alloc (.cells #[.int .i64 0, .slice none 0 0] 58)) W5.heap.size := ⟨row_new rfl _ _, HA5.out.lt⟩
              have ne : xz13 ≠ W5.heap.size := by have := z13_5.out.1.lt; omega
              refine hK.out _ _ ⟨HA6'.row.cell (i := 0) rfl, HA6'.row.cell (i := 1) rfl⟩ (fun hHeld => ?_)
              clear hK K
              try simp only [Act.put, List.setIfInBounds_toArray, List.set_cons_zero, List.set_cons_succ]
              generalize W5.alloc (.cells #[.int .i64 0, .slice none 0 0] 58) = W6 at HA6' g5_6' g11_6' z13_6' z12_6' hHeld ⊢
              generalize W5.heap.size = xz12 at z12_6' g5_6' g11_6' ne ⊢
              have HA6 := Lib.hid HA6'
              have g5_6 := Lib.hid g5_6'
              have g11_6 := Lib.hid g11_6'
              have z13_6 := Lib.hid z13_6'
              have z12_6 := Lib.hid z12_6'
              clear HA6' g5_6' g11_6' z13_6' z12_6' HA5 g5_5 g11_5 z13_5
              obtain ⟨hL1, hL2, hL3⟩ := acts_leaf HA6.out g5_6.out g11_6.out HI5.out HI11.out z12_6.out z13_6.out (Ne.symm ne) (by simp) (by simp)
              have nn : xz12 ≠ xz13 := (Ne.symm ne)
              have HE := Lib.hid (show ActsMid w g p n (.pointer (some ⟨xz12, 0, none⟩)) (.pointer (some ⟨xz13, 0, none⟩)) _ from ⟨_, _, _, _, _, _, _, _, rfl, rfl, hL1, hL2, hL3⟩)
              have r0 := z12_6.out.1.cell (i := 0) rfl
              have r1 := z12_6.out.1.cell (i := 1) rfl
              have y0 := z12_6.out.1.frozen 0
              have y1 := z12_6.out.1.frozen 1
              have hk2 := (HA6.out.row.far (p := ⟨xz12, 0, none⟩) (by show g ≠ xz12; have := z12_6.out.2; omega) (.int .i64 p)).far (p := ⟨xz12, 1, none⟩) (by show g ≠ xz12; have := z12_6.out.2; omega) (.slice A5 n c5)
              have hz2 := ((z13_6.out.1.far (p := ⟨xz12, 0, none⟩) (Ne.symm nn) (.int .i64 p)).far (p := ⟨xz12, 1, none⟩) (Ne.symm nn) (.slice A5 n c5))
              have hgz : g ≠ xz13 := by have := z13_6.out.2; omega
              clear hL1 hL2 hL3 HA6 g5_6 g11_6 z13_6 z12_6 HI5 HI11
              refine wpAnyH_ready (rs := [14]) (by kernel_rfl) (by simp) ?_
              refine (AllReadyH.cons rfl (fun K hK => ?_) AllReadyH.nil)
              go_simp
              refine hK.out _ _ ⟨hk2.cell (i := 0) rfl, hk2.cell (i := 1) rfl⟩ (fun hHeld => ?_)
              clear hK K r0 r1 y0 y1
              try simp only [Act.put, List.setIfInBounds_toArray, List.set_cons_zero, List.set_cons_succ]
              have r0 := hz2.cell (i := 0) rfl
              have r1 := hz2.cell (i := 1) rfl
              have y0 := hz2.frozen 0
              have y1 := hz2.frozen 1
              have hk3 := (hk2.far (p := ⟨xz13, 0, none⟩) hgz (.int .i64 p)).far (p := ⟨xz13, 1, none⟩) hgz (.slice A11 n c11)
              refine wpAnyH_ready (rs := [15]) (by kernel_rfl) (by simp) ?_
              refine (AllReadyH.cons rfl (fun K hK => ?_) AllReadyH.nil)
              go_simp
              refine hK.out _ _ ⟨hk3.cell (i := 0) rfl, hk3.cell (i := 1) rfl⟩ (fun hHeld => ?_)
              clear hK K r0 r1 y0 y1 hk2 hk3 hz2
              try simp only [Act.put, List.setIfInBounds_toArray, List.set_cons_zero, List.set_cons_succ]
              refine wpAnyH_done (by kernel_rfl) ?_ _
              go_wp2_with fail
              go_meet
              exact HE.out
        · go_simp
          have HA7' := HA1.out.alloc (.cells #[.int .i64 0, .slice none 0 0] 58)
          have g5_7' := g5_1.out.alloc (.cells #[.int .i64 0, .slice none 0 0] 58)
          have z12_7' : ZB g (W1.alloc (.cells #[.int .i64 0, .slice none 0 0] 58)) W1.heap.size := ⟨row_new rfl _ _, HA1.out.lt⟩
          refine hK.out _ _ ⟨HA7'.row.cell (i := 0) rfl, HA7'.row.cell (i := 1) rfl⟩ (fun hHeld => ?_)
          clear hK K
          try simp only [Act.put, List.setIfInBounds_toArray, List.set_cons_zero, List.set_cons_succ]
          generalize W1.alloc (.cells #[.int .i64 0, .slice none 0 0] 58) = W7 at HA7' g5_7' z12_7' hHeld ⊢
          generalize W1.heap.size = xz12 at z12_7' g5_7' ⊢
          have HA7 := Lib.hid HA7'
          have g5_7 := Lib.hid g5_7'
          have z12_7 := Lib.hid z12_7'
          clear HA7' g5_7' z12_7' HA1 g5_1
          refine wpAnyH_ready (rs := [11, 13]) (by kernel_rfl) (by simp) ?_
          refine (AllReadyH.cons rfl (fun K hK => ?_) (AllReadyH.cons rfl (fun K hK => ?_) AllReadyH.nil))
          · go_simp
            go_at_call 81
            refine (HCD.out _ HA7.out).mono ?_
            rintro e W8 ⟨A11, c11, f11, rfl, HA8', hgr, hin11, hbt, hsz⟩
            have HI11 := Lib.hid hin11
            have g11_8' := GA.of (g := g) [xz12] hgr HA7.out.lt (fun x hx => by rcases List.mem_cons.1 hx with rfl | hx; exact z12_7.out.1.lt; simp at hx)
            have g5_8' := g5_7.out.but hbt hsz
            have z12_8' := z12_7.out.but hbt
            refine hK.out _ _ ⟨HA8'.row.cell (i := 0) rfl, HA8'.row.cell (i := 1) rfl⟩ (fun hHeld => ?_)
            clear hK K hbt hsz hgr hin11
            try simp only [Act.put, List.setIfInBounds_toArray, List.set_cons_zero, List.set_cons_succ]
            have HA8 := Lib.hid HA8'
            have g5_8 := Lib.hid g5_8'
            have z12_8 := Lib.hid z12_8'
            have g11_8 := Lib.hid g11_8'
            clear HA8' g5_8' z12_8' g11_8' HA7 g5_7 z12_7
            refine wpAnyH_ready (rs := [13]) (by kernel_rfl) (by simp) ?_
            refine (AllReadyH.cons rfl (fun K hK => ?_) AllReadyH.nil)
            · go_simp
              have HA9' := HA8.out.alloc (.cells #[.int .i64 0, .slice none 0 0] 58)
              have g5_9' := g5_8.out.alloc (.cells #[.int .i64 0, .slice none 0 0] 58)
              have z12_9' := z12_8.out.alloc (.cells #[.int .i64 0, .slice none 0 0] 58)
              have g11_9' := g11_8.out.alloc (.cells #[.int .i64 0, .slice none 0 0] 58)
              have z13_9' : ZB g (W8.alloc (.cells #[.int .i64 0, .slice none 0 0] 58)) W8.heap.size := ⟨row_new rfl _ _, HA8.out.lt⟩
              have ne : xz12 ≠ W8.heap.size := by have := z12_8.out.1.lt; omega
              refine hK.out _ _ ⟨HA9'.row.cell (i := 0) rfl, HA9'.row.cell (i := 1) rfl⟩ (fun hHeld => ?_)
              clear hK K
              try simp only [Act.put, List.setIfInBounds_toArray, List.set_cons_zero, List.set_cons_succ]
              generalize W8.alloc (.cells #[.int .i64 0, .slice none 0 0] 58) = W9 at HA9' g5_9' z12_9' g11_9' z13_9' hHeld ⊢
              generalize W8.heap.size = xz13 at z13_9' g5_9' g11_9' ne ⊢
              have HA9 := Lib.hid HA9'
              have g5_9 := Lib.hid g5_9'
              have z12_9 := Lib.hid z12_9'
              have g11_9 := Lib.hid g11_9'
              have z13_9 := Lib.hid z13_9'
              clear HA9' g5_9' z12_9' g11_9' z13_9' HA8 g5_8 z12_8 g11_8
              obtain ⟨hL1, hL2, hL3⟩ := acts_leaf HA9.out g5_9.out g11_9.out HI5.out HI11.out z12_9.out z13_9.out ne (by simp) (by simp)
              have nn : xz12 ≠ xz13 := ne
              have HE := Lib.hid (show ActsMid w g p n (.pointer (some ⟨xz12, 0, none⟩)) (.pointer (some ⟨xz13, 0, none⟩)) _ from ⟨_, _, _, _, _, _, _, _, rfl, rfl, hL1, hL2, hL3⟩)
              have r0 := z12_9.out.1.cell (i := 0) rfl
              have r1 := z12_9.out.1.cell (i := 1) rfl
              have y0 := z12_9.out.1.frozen 0
              have y1 := z12_9.out.1.frozen 1
              have hk2 := (HA9.out.row.far (p := ⟨xz12, 0, none⟩) (by show g ≠ xz12; have := z12_9.out.2; omega) (.int .i64 p)).far (p := ⟨xz12, 1, none⟩) (by show g ≠ xz12; have := z12_9.out.2; omega) (.slice A5 n c5)
              have hz2 := ((z13_9.out.1.far (p := ⟨xz12, 0, none⟩) (Ne.symm nn) (.int .i64 p)).far (p := ⟨xz12, 1, none⟩) (Ne.symm nn) (.slice A5 n c5))
              have hgz : g ≠ xz13 := by have := z13_9.out.2; omega
              clear hL1 hL2 hL3 HA9 g5_9 z12_9 g11_9 z13_9 HI5 HI11
              refine wpAnyH_ready (rs := [14]) (by kernel_rfl) (by simp) ?_
              refine (AllReadyH.cons rfl (fun K hK => ?_) AllReadyH.nil)
              go_simp
              refine hK.out _ _ ⟨hk2.cell (i := 0) rfl, hk2.cell (i := 1) rfl⟩ (fun hHeld => ?_)
              clear hK K r0 r1 y0 y1
              try simp only [Act.put, List.setIfInBounds_toArray, List.set_cons_zero, List.set_cons_succ]
              have r0 := hz2.cell (i := 0) rfl
              have r1 := hz2.cell (i := 1) rfl
              have y0 := hz2.frozen 0
              have y1 := hz2.frozen 1
              have hk3 := (hk2.far (p := ⟨xz13, 0, none⟩) hgz (.int .i64 p)).far (p := ⟨xz13, 1, none⟩) hgz (.slice A11 n c11)
              refine wpAnyH_ready (rs := [15]) (by kernel_rfl) (by simp) ?_
              refine (AllReadyH.cons rfl (fun K hK => ?_) AllReadyH.nil)
              go_simp
              refine hK.out _ _ ⟨hk3.cell (i := 0) rfl, hk3.cell (i := 1) rfl⟩ (fun hHeld => ?_)
              clear hK K r0 r1 y0 y1 hk2 hk3 hz2
              try simp only [Act.put, List.setIfInBounds_toArray, List.set_cons_zero, List.set_cons_succ]
              refine wpAnyH_done (by kernel_rfl) ?_ _
              go_wp2_with fail
              go_meet
              exact HE.out
          · go_simp
            have HA10' := HA7.out.alloc (.cells #[.int .i64 0, .slice none 0 0] 58)
            have g5_10' := g5_7.out.alloc (.cells #[.int .i64 0, .slice none 0 0] 58)
            have z12_10' := z12_7.out.alloc (.cells #[.int .i64 0, .slice none 0 0] 58)
            have z13_10' : ZB g (W7.alloc (.cells #[.int .i64 0, .slice none 0 0] 58)) W7.heap.size := ⟨row_new rfl _ _, HA7.out.lt⟩
            have ne : xz12 ≠ W7.heap.size := by have := z12_7.out.1.lt; omega
            refine hK.out _ _ ⟨HA10'.row.cell (i := 0) rfl, HA10'.row.cell (i := 1) rfl⟩ (fun hHeld => ?_)
            clear hK K
            try simp only [Act.put, List.setIfInBounds_toArray, List.set_cons_zero, List.set_cons_succ]
            generalize W7.alloc (.cells #[.int .i64 0, .slice none 0 0] 58) = W10 at HA10' g5_10' z12_10' z13_10' hHeld ⊢
            generalize W7.heap.size = xz13 at z13_10' g5_10' ne ⊢
            have HA10 := Lib.hid HA10'
            have g5_10 := Lib.hid g5_10'
            have z12_10 := Lib.hid z12_10'
            have z13_10 := Lib.hid z13_10'
            clear HA10' g5_10' z12_10' z13_10' HA7 g5_7 z12_7
            refine wpAnyH_ready (rs := [11]) (by kernel_rfl) (by simp) ?_
            refine (AllReadyH.cons rfl (fun K hK => ?_) AllReadyH.nil)
            · go_simp
              go_at_call 81
              refine (HCD.out _ HA10.out).mono ?_
              rintro e W11 ⟨A11, c11, f11, rfl, HA11', hgr, hin11, hbt, hsz⟩
              have HI11 := Lib.hid hin11
              have g11_11' := GA.of (g := g) [xz13, xz12] hgr HA10.out.lt (fun x hx => by rcases List.mem_cons.1 hx with rfl | hx; exact z13_10.out.1.lt; rcases List.mem_cons.1 hx with rfl | hx; exact z12_10.out.1.lt; simp at hx)
              have g5_11' := g5_10.out.but hbt hsz
              have z12_11' := z12_10.out.but hbt
              have z13_11' := z13_10.out.but hbt
              refine hK.out _ _ ⟨HA11'.row.cell (i := 0) rfl, HA11'.row.cell (i := 1) rfl⟩ (fun hHeld => ?_)
              clear hK K hbt hsz hgr hin11
              try simp only [Act.put, List.setIfInBounds_toArray, List.set_cons_zero, List.set_cons_succ]
              have HA11 := Lib.hid HA11'
              have g5_11 := Lib.hid g5_11'
              have z12_11 := Lib.hid z12_11'
              have z13_11 := Lib.hid z13_11'
              have g11_11 := Lib.hid g11_11'
              clear HA11' g5_11' z12_11' z13_11' g11_11' HA10 g5_10 z12_10 z13_10
              obtain ⟨hL1, hL2, hL3⟩ := acts_leaf HA11.out g5_11.out g11_11.out HI5.out HI11.out z12_11.out z13_11.out ne (by simp) (by simp)
              have nn : xz12 ≠ xz13 := ne
              have HE := Lib.hid (show ActsMid w g p n (.pointer (some ⟨xz12, 0, none⟩)) (.pointer (some ⟨xz13, 0, none⟩)) _ from ⟨_, _, _, _, _, _, _, _, rfl, rfl, hL1, hL2, hL3⟩)
              have r0 := z12_11.out.1.cell (i := 0) rfl
              have r1 := z12_11.out.1.cell (i := 1) rfl
              have y0 := z12_11.out.1.frozen 0
              have y1 := z12_11.out.1.frozen 1
              have hk2 := (HA11.out.row.far (p := ⟨xz12, 0, none⟩) (by show g ≠ xz12; have := z12_11.out.2; omega) (.int .i64 p)).far (p := ⟨xz12, 1, none⟩) (by show g ≠ xz12; have := z12_11.out.2; omega) (.slice A5 n c5)
              have hz2 := ((z13_11.out.1.far (p := ⟨xz12, 0, none⟩) (Ne.symm nn) (.int .i64 p)).far (p := ⟨xz12, 1, none⟩) (Ne.symm nn) (.slice A5 n c5))
              have hgz : g ≠ xz13 := by have := z13_11.out.2; omega
              clear hL1 hL2 hL3 HA11 g5_11 z12_11 z13_11 g11_11 HI5 HI11
              refine wpAnyH_ready (rs := [14]) (by kernel_rfl) (by simp) ?_
              refine (AllReadyH.cons rfl (fun K hK => ?_) AllReadyH.nil)
              go_simp
              refine hK.out _ _ ⟨hk2.cell (i := 0) rfl, hk2.cell (i := 1) rfl⟩ (fun hHeld => ?_)
              clear hK K r0 r1 y0 y1
              try simp only [Act.put, List.setIfInBounds_toArray, List.set_cons_zero, List.set_cons_succ]
              have r0 := hz2.cell (i := 0) rfl
              have r1 := hz2.cell (i := 1) rfl
              have y0 := hz2.frozen 0
              have y1 := hz2.frozen 1
              have hk3 := (hk2.far (p := ⟨xz13, 0, none⟩) hgz (.int .i64 p)).far (p := ⟨xz13, 1, none⟩) hgz (.slice A11 n c11)
              refine wpAnyH_ready (rs := [15]) (by kernel_rfl) (by simp) ?_
              refine (AllReadyH.cons rfl (fun K hK => ?_) AllReadyH.nil)
              go_simp
              refine hK.out _ _ ⟨hk3.cell (i := 0) rfl, hk3.cell (i := 1) rfl⟩ (fun hHeld => ?_)
              clear hK K r0 r1 y0 y1 hk2 hk3 hz2
              try simp only [Act.put, List.setIfInBounds_toArray, List.set_cons_zero, List.set_cons_succ]
              refine wpAnyH_done (by kernel_rfl) ?_ _
              go_wp2_with fail
              go_meet
              exact HE.out
        · go_simp
          have HA12' := HA1.out.alloc (.cells #[.int .i64 0, .slice none 0 0] 58)
          have g5_12' := g5_1.out.alloc (.cells #[.int .i64 0, .slice none 0 0] 58)
          have z13_12' : ZB g (W1.alloc (.cells #[.int .i64 0, .slice none 0 0] 58)) W1.heap.size := ⟨row_new rfl _ _, HA1.out.lt⟩
          refine hK.out _ _ ⟨HA12'.row.cell (i := 0) rfl, HA12'.row.cell (i := 1) rfl⟩ (fun hHeld => ?_)
          clear hK K
          try simp only [Act.put, List.setIfInBounds_toArray, List.set_cons_zero, List.set_cons_succ]
          generalize W1.alloc (.cells #[.int .i64 0, .slice none 0 0] 58) = W12 at HA12' g5_12' z13_12' hHeld ⊢
          generalize W1.heap.size = xz13 at z13_12' g5_12' ⊢
          have HA12 := Lib.hid HA12'
          have g5_12 := Lib.hid g5_12'
          have z13_12 := Lib.hid z13_12'
          clear HA12' g5_12' z13_12' HA1 g5_1
          refine wpAnyH_ready (rs := [11, 12]) (by kernel_rfl) (by simp) ?_
          refine (AllReadyH.cons rfl (fun K hK => ?_) (AllReadyH.cons rfl (fun K hK => ?_) AllReadyH.nil))
          · go_simp
            go_at_call 81
            refine (HCD.out _ HA12.out).mono ?_
            rintro e W13 ⟨A11, c11, f11, rfl, HA13', hgr, hin11, hbt, hsz⟩
            have HI11 := Lib.hid hin11
            have g11_13' := GA.of (g := g) [xz13] hgr HA12.out.lt (fun x hx => by rcases List.mem_cons.1 hx with rfl | hx; exact z13_12.out.1.lt; simp at hx)
            have g5_13' := g5_12.out.but hbt hsz
            have z13_13' := z13_12.out.but hbt
            refine hK.out _ _ ⟨HA13'.row.cell (i := 0) rfl, HA13'.row.cell (i := 1) rfl⟩ (fun hHeld => ?_)
            clear hK K hbt hsz hgr hin11
            try simp only [Act.put, List.setIfInBounds_toArray, List.set_cons_zero, List.set_cons_succ]
            have HA13 := Lib.hid HA13'
            have g5_13 := Lib.hid g5_13'
            have z13_13 := Lib.hid z13_13'
            have g11_13 := Lib.hid g11_13'
            clear HA13' g5_13' z13_13' g11_13' HA12 g5_12 z13_12
            refine wpAnyH_ready (rs := [12]) (by kernel_rfl) (by simp) ?_
            refine (AllReadyH.cons rfl (fun K hK => ?_) AllReadyH.nil)
            · go_simp
              have HA14' := HA13.out.alloc (.cells #[.int .i64 0, .slice none 0 0] 58)
              have g5_14' := g5_13.out.alloc (.cells #[.int .i64 0, .slice none 0 0] 58)
              have z13_14' := z13_13.out.alloc (.cells #[.int .i64 0, .slice none 0 0] 58)
              have g11_14' := g11_13.out.alloc (.cells #[.int .i64 0, .slice none 0 0] 58)
              have z12_14' : ZB g (W13.alloc (.cells #[.int .i64 0, .slice none 0 0] 58)) W13.heap.size := ⟨row_new rfl _ _, HA13.out.lt⟩
              have ne : xz13 ≠ W13.heap.size := by have := z13_13.out.1.lt; omega
              refine hK.out _ _ ⟨HA14'.row.cell (i := 0) rfl, HA14'.row.cell (i := 1) rfl⟩ (fun hHeld => ?_)
              clear hK K
              try simp only [Act.put, List.setIfInBounds_toArray, List.set_cons_zero, List.set_cons_succ]
              generalize W13.alloc (.cells #[.int .i64 0, .slice none 0 0] 58) = W14 at HA14' g5_14' z13_14' g11_14' z12_14' hHeld ⊢
              generalize W13.heap.size = xz12 at z12_14' g5_14' g11_14' ne ⊢
              have HA14 := Lib.hid HA14'
              have g5_14 := Lib.hid g5_14'
              have z13_14 := Lib.hid z13_14'
              have g11_14 := Lib.hid g11_14'
              have z12_14 := Lib.hid z12_14'
              clear HA14' g5_14' z13_14' g11_14' z12_14' HA13 g5_13 z13_13 g11_13
              obtain ⟨hL1, hL2, hL3⟩ := acts_leaf HA14.out g5_14.out g11_14.out HI5.out HI11.out z12_14.out z13_14.out (Ne.symm ne) (by simp) (by simp)
              have nn : xz12 ≠ xz13 := (Ne.symm ne)
              have HE := Lib.hid (show ActsMid w g p n (.pointer (some ⟨xz12, 0, none⟩)) (.pointer (some ⟨xz13, 0, none⟩)) _ from ⟨_, _, _, _, _, _, _, _, rfl, rfl, hL1, hL2, hL3⟩)
              have r0 := z12_14.out.1.cell (i := 0) rfl
              have r1 := z12_14.out.1.cell (i := 1) rfl
              have y0 := z12_14.out.1.frozen 0
              have y1 := z12_14.out.1.frozen 1
              have hk2 := (HA14.out.row.far (p := ⟨xz12, 0, none⟩) (by show g ≠ xz12; have := z12_14.out.2; omega) (.int .i64 p)).far (p := ⟨xz12, 1, none⟩) (by show g ≠ xz12; have := z12_14.out.2; omega) (.slice A5 n c5)
              have hz2 := ((z13_14.out.1.far (p := ⟨xz12, 0, none⟩) (Ne.symm nn) (.int .i64 p)).far (p := ⟨xz12, 1, none⟩) (Ne.symm nn) (.slice A5 n c5))
              have hgz : g ≠ xz13 := by have := z13_14.out.2; omega
              clear hL1 hL2 hL3 HA14 g5_14 z13_14 g11_14 z12_14 HI5 HI11
              refine wpAnyH_ready (rs := [14]) (by kernel_rfl) (by simp) ?_
              refine (AllReadyH.cons rfl (fun K hK => ?_) AllReadyH.nil)
              go_simp
              refine hK.out _ _ ⟨hk2.cell (i := 0) rfl, hk2.cell (i := 1) rfl⟩ (fun hHeld => ?_)
              clear hK K r0 r1 y0 y1
              try simp only [Act.put, List.setIfInBounds_toArray, List.set_cons_zero, List.set_cons_succ]
              have r0 := hz2.cell (i := 0) rfl
              have r1 := hz2.cell (i := 1) rfl
              have y0 := hz2.frozen 0
              have y1 := hz2.frozen 1
              have hk3 := (hk2.far (p := ⟨xz13, 0, none⟩) hgz (.int .i64 p)).far (p := ⟨xz13, 1, none⟩) hgz (.slice A11 n c11)
              refine wpAnyH_ready (rs := [15]) (by kernel_rfl) (by simp) ?_
              refine (AllReadyH.cons rfl (fun K hK => ?_) AllReadyH.nil)
              go_simp
              refine hK.out _ _ ⟨hk3.cell (i := 0) rfl, hk3.cell (i := 1) rfl⟩ (fun hHeld => ?_)
              clear hK K r0 r1 y0 y1 hk2 hk3 hz2
              try simp only [Act.put, List.setIfInBounds_toArray, List.set_cons_zero, List.set_cons_succ]
              refine wpAnyH_done (by kernel_rfl) ?_ _
              go_wp2_with fail
              go_meet
              exact HE.out
          · go_simp
            have HA15' := HA12.out.alloc (.cells #[.int .i64 0, .slice none 0 0] 58)
            have g5_15' := g5_12.out.alloc (.cells #[.int .i64 0, .slice none 0 0] 58)
            have z13_15' := z13_12.out.alloc (.cells #[.int .i64 0, .slice none 0 0] 58)
            have z12_15' : ZB g (W12.alloc (.cells #[.int .i64 0, .slice none 0 0] 58)) W12.heap.size := ⟨row_new rfl _ _, HA12.out.lt⟩
            have ne : xz13 ≠ W12.heap.size := by have := z13_12.out.1.lt; omega
            refine hK.out _ _ ⟨HA15'.row.cell (i := 0) rfl, HA15'.row.cell (i := 1) rfl⟩ (fun hHeld => ?_)
            clear hK K
            try simp only [Act.put, List.setIfInBounds_toArray, List.set_cons_zero, List.set_cons_succ]
            generalize W12.alloc (.cells #[.int .i64 0, .slice none 0 0] 58) = W15 at HA15' g5_15' z13_15' z12_15' hHeld ⊢
            generalize W12.heap.size = xz12 at z12_15' g5_15' ne ⊢
            have HA15 := Lib.hid HA15'
            have g5_15 := Lib.hid g5_15'
            have z13_15 := Lib.hid z13_15'
            have z12_15 := Lib.hid z12_15'
            clear HA15' g5_15' z13_15' z12_15' HA12 g5_12 z13_12
            refine wpAnyH_ready (rs := [11]) (by kernel_rfl) (by simp) ?_
            refine (AllReadyH.cons rfl (fun K hK => ?_) AllReadyH.nil)
            · go_simp
              go_at_call 81
              refine (HCD.out _ HA15.out).mono ?_
              rintro e W16 ⟨A11, c11, f11, rfl, HA16', hgr, hin11, hbt, hsz⟩
              have HI11 := Lib.hid hin11
              have g11_16' := GA.of (g := g) [xz12, xz13] hgr HA15.out.lt (fun x hx => by rcases List.mem_cons.1 hx with rfl | hx; exact z12_15.out.1.lt; rcases List.mem_cons.1 hx with rfl | hx; exact z13_15.out.1.lt; simp at hx)
              have g5_16' := g5_15.out.but hbt hsz
              have z13_16' := z13_15.out.but hbt
              have z12_16' := z12_15.out.but hbt
              refine hK.out _ _ ⟨HA16'.row.cell (i := 0) rfl, HA16'.row.cell (i := 1) rfl⟩ (fun hHeld => ?_)
              clear hK K hbt hsz hgr hin11
              try simp only [Act.put, List.setIfInBounds_toArray, List.set_cons_zero, List.set_cons_succ]
              have HA16 := Lib.hid HA16'
              have g5_16 := Lib.hid g5_16'
              have z13_16 := Lib.hid z13_16'
              have z12_16 := Lib.hid z12_16'
              have g11_16 := Lib.hid g11_16'
              clear HA16' g5_16' z13_16' z12_16' g11_16' HA15 g5_15 z13_15 z12_15
              obtain ⟨hL1, hL2, hL3⟩ := acts_leaf HA16.out g5_16.out g11_16.out HI5.out HI11.out z12_16.out z13_16.out (Ne.symm ne) (by simp) (by simp)
              have nn : xz12 ≠ xz13 := (Ne.symm ne)
              have HE := Lib.hid (show ActsMid w g p n (.pointer (some ⟨xz12, 0, none⟩)) (.pointer (some ⟨xz13, 0, none⟩)) _ from ⟨_, _, _, _, _, _, _, _, rfl, rfl, hL1, hL2, hL3⟩)
              have r0 := z12_16.out.1.cell (i := 0) rfl
              have r1 := z12_16.out.1.cell (i := 1) rfl
              have y0 := z12_16.out.1.frozen 0
              have y1 := z12_16.out.1.frozen 1
              have hk2 := (HA16.out.row.far (p := ⟨xz12, 0, none⟩) (by show g ≠ xz12; have := z12_16.out.2; omega) (.int .i64 p)).far (p := ⟨xz12, 1, none⟩) (by show g ≠ xz12; have := z12_16.out.2; omega) (.slice A5 n c5)
              have hz2 := ((z13_16.out.1.far (p := ⟨xz12, 0, none⟩) (Ne.symm nn) (.int .i64 p)).far (p := ⟨xz12, 1, none⟩) (Ne.symm nn) (.slice A5 n c5))
              have hgz : g ≠ xz13 := by have := z13_16.out.2; omega
              clear hL1 hL2 hL3 HA16 g5_16 z13_16 z12_16 g11_16 HI5 HI11
              refine wpAnyH_ready (rs := [14]) (by kernel_rfl) (by simp) ?_
              refine (AllReadyH.cons rfl (fun K hK => ?_) AllReadyH.nil)
              go_simp
              refine hK.out _ _ ⟨hk2.cell (i := 0) rfl, hk2.cell (i := 1) rfl⟩ (fun hHeld => ?_)
              clear hK K r0 r1 y0 y1
              try simp only [Act.put, List.setIfInBounds_toArray, List.set_cons_zero, List.set_cons_succ]
              have r0 := hz2.cell (i := 0) rfl
              have r1 := hz2.cell (i := 1) rfl
              have y0 := hz2.frozen 0
              have y1 := hz2.frozen 1
              have hk3 := (hk2.far (p := ⟨xz13, 0, none⟩) hgz (.int .i64 p)).far (p := ⟨xz13, 1, none⟩) hgz (.slice A11 n c11)
              refine wpAnyH_ready (rs := [15]) (by kernel_rfl) (by simp) ?_
              refine (AllReadyH.cons rfl (fun K hK => ?_) AllReadyH.nil)
              go_simp
              refine hK.out _ _ ⟨hk3.cell (i := 0) rfl, hk3.cell (i := 1) rfl⟩ (fun hHeld => ?_)
              clear hK K r0 r1 y0 y1 hk2 hk3 hz2
              try simp only [Act.put, List.setIfInBounds_toArray, List.set_cons_zero, List.set_cons_succ]
              refine wpAnyH_done (by kernel_rfl) ?_ _
              go_wp2_with fail
              go_meet
              exact HE.out
      · go_simp
        have HA17' := HA0.out.alloc (.cells #[.int .i64 0, .slice none 0 0] 58)
        have z12_17' : ZB g (W0.alloc (.cells #[.int .i64 0, .slice none 0 0] 58)) W0.heap.size := ⟨row_new rfl _ _, HA0.out.lt⟩
        refine hK.out _ _ ⟨HA17'.row.cell (i := 0) rfl, HA17'.row.cell (i := 1) rfl⟩ (fun hHeld => ?_)
        clear hK K
        try simp only [Act.put, List.setIfInBounds_toArray, List.set_cons_zero, List.set_cons_succ]
        generalize W0.alloc (.cells #[.int .i64 0, .slice none 0 0] 58) = W17 at HA17' z12_17' hHeld ⊢
        generalize W0.heap.size = xz12 at z12_17'  ⊢
        have HA17 := Lib.hid HA17'
        have z12_17 := Lib.hid z12_17'
        clear HA17' z12_17' HA0 
        refine wpAnyH_ready (rs := [5, 13]) (by kernel_rfl) (by simp) ?_
        refine (AllReadyH.cons rfl (fun K hK => ?_) (AllReadyH.cons rfl (fun K hK => ?_) AllReadyH.nil))
        · go_simp
          go_at_call 81
          refine (HCD.out _ HA17.out).mono ?_
          rintro e W18 ⟨A5, c5, f5, rfl, HA18', hgr, hin5, hbt, hsz⟩
          have HI5 := Lib.hid hin5
          have g5_18' := GA.of (g := g) [xz12] hgr HA17.out.lt (fun x hx => by rcases List.mem_cons.1 hx with rfl | hx; exact z12_17.out.1.lt; simp at hx)
          have z12_18' := z12_17.out.but hbt
          refine hK.out _ _ ⟨HA18'.row.cell (i := 0) rfl, HA18'.row.cell (i := 1) rfl⟩ (fun hHeld => ?_)
          clear hK K hbt hsz hgr hin5
          try simp only [Act.put, List.setIfInBounds_toArray, List.set_cons_zero, List.set_cons_succ]
          have HA18 := Lib.hid HA18'
          have z12_18 := Lib.hid z12_18'
          have g5_18 := Lib.hid g5_18'
          clear HA18' z12_18' g5_18' HA17 z12_17
          refine wpAnyH_ready (rs := [11, 13]) (by kernel_rfl) (by simp) ?_
          refine (AllReadyH.cons rfl (fun K hK => ?_) (AllReadyH.cons rfl (fun K hK => ?_) AllReadyH.nil))
          · go_simp
            go_at_call 81
            refine (HCD.out _ HA18.out).mono ?_
            rintro e W19 ⟨A11, c11, f11, rfl, HA19', hgr, hin11, hbt, hsz⟩
            have HI11 := Lib.hid hin11
            have g11_19' := GA.of (g := g) [xz12] hgr HA18.out.lt (fun x hx => by rcases List.mem_cons.1 hx with rfl | hx; exact z12_18.out.1.lt; simp at hx)
            have z12_19' := z12_18.out.but hbt
            have g5_19' := g5_18.out.but hbt hsz
            refine hK.out _ _ ⟨HA19'.row.cell (i := 0) rfl, HA19'.row.cell (i := 1) rfl⟩ (fun hHeld => ?_)
            clear hK K hbt hsz hgr hin11
            try simp only [Act.put, List.setIfInBounds_toArray, List.set_cons_zero, List.set_cons_succ]
            have HA19 := Lib.hid HA19'
            have z12_19 := Lib.hid z12_19'
            have g5_19 := Lib.hid g5_19'
            have g11_19 := Lib.hid g11_19'
            clear HA19' z12_19' g5_19' g11_19' HA18 z12_18 g5_18
            refine wpAnyH_ready (rs := [13]) (by kernel_rfl) (by simp) ?_
            refine (AllReadyH.cons rfl (fun K hK => ?_) AllReadyH.nil)
            · go_simp
              have HA20' := HA19.out.alloc (.cells #[.int .i64 0, .slice none 0 0] 58)
              have z12_20' := z12_19.out.alloc (.cells #[.int .i64 0, .slice none 0 0] 58)
              have g5_20' := g5_19.out.alloc (.cells #[.int .i64 0, .slice none 0 0] 58)
              have g11_20' := g11_19.out.alloc (.cells #[.int .i64 0, .slice none 0 0] 58)
              have z13_20' : ZB g (W19.alloc (.cells #[.int .i64 0, .slice none 0 0] 58)) W19.heap.size := ⟨row_new rfl _ _, HA19.out.lt⟩
              have ne : xz12 ≠ W19.heap.size := by have := z12_19.out.1.lt; omega
              refine hK.out _ _ ⟨HA20'.row.cell (i := 0) rfl, HA20'.row.cell (i := 1) rfl⟩ (fun hHeld => ?_)
              clear hK K
              try simp only [Act.put, List.setIfInBounds_toArray, List.set_cons_zero, List.set_cons_succ]
              generalize W19.alloc (.cells #[.int .i64 0, .slice none 0 0] 58) = W20 at HA20' z12_20' g5_20' g11_20' z13_20' hHeld ⊢
              generalize W19.heap.size = xz13 at z13_20' g5_20' g11_20' ne ⊢
              have HA20 := Lib.hid HA20'
              have z12_20 := Lib.hid z12_20'
              have g5_20 := Lib.hid g5_20'
              have g11_20 := Lib.hid g11_20'
              have z13_20 := Lib.hid z13_20'
              clear HA20' z12_20' g5_20' g11_20' z13_20' HA19 z12_19 g5_19 g11_19
              obtain ⟨hL1, hL2, hL3⟩ := acts_leaf HA20.out g5_20.out g11_20.out HI5.out HI11.out z12_20.out z13_20.out ne (by simp) (by simp)
              have nn : xz12 ≠ xz13 := ne
              have HE := Lib.hid (show ActsMid w g p n (.pointer (some ⟨xz12, 0, none⟩)) (.pointer (some ⟨xz13, 0, none⟩)) _ from ⟨_, _, _, _, _, _, _, _, rfl, rfl, hL1, hL2, hL3⟩)
              have r0 := z12_20.out.1.cell (i := 0) rfl
              have r1 := z12_20.out.1.cell (i := 1) rfl
              have y0 := z12_20.out.1.frozen 0
              have y1 := z12_20.out.1.frozen 1
              have hk2 := (HA20.out.row.far (p := ⟨xz12, 0, none⟩) (by show g ≠ xz12; have := z12_20.out.2; omega) (.int .i64 p)).far (p := ⟨xz12, 1, none⟩) (by show g ≠ xz12; have := z12_20.out.2; omega) (.slice A5 n c5)
              have hz2 := ((z13_20.out.1.far (p := ⟨xz12, 0, none⟩) (Ne.symm nn) (.int .i64 p)).far (p := ⟨xz12, 1, none⟩) (Ne.symm nn) (.slice A5 n c5))
              have hgz : g ≠ xz13 := by have := z13_20.out.2; omega
              clear hL1 hL2 hL3 HA20 z12_20 g5_20 g11_20 z13_20 HI5 HI11
              refine wpAnyH_ready (rs := [14]) (by kernel_rfl) (by simp) ?_
              refine (AllReadyH.cons rfl (fun K hK => ?_) AllReadyH.nil)
              go_simp
              refine hK.out _ _ ⟨hk2.cell (i := 0) rfl, hk2.cell (i := 1) rfl⟩ (fun hHeld => ?_)
              clear hK K r0 r1 y0 y1
              try simp only [Act.put, List.setIfInBounds_toArray, List.set_cons_zero, List.set_cons_succ]
              have r0 := hz2.cell (i := 0) rfl
              have r1 := hz2.cell (i := 1) rfl
              have y0 := hz2.frozen 0
              have y1 := hz2.frozen 1
              have hk3 := (hk2.far (p := ⟨xz13, 0, none⟩) hgz (.int .i64 p)).far (p := ⟨xz13, 1, none⟩) hgz (.slice A11 n c11)
              refine wpAnyH_ready (rs := [15]) (by kernel_rfl) (by simp) ?_
              refine (AllReadyH.cons rfl (fun K hK => ?_) AllReadyH.nil)
              go_simp
              refine hK.out _ _ ⟨hk3.cell (i := 0) rfl, hk3.cell (i := 1) rfl⟩ (fun hHeld => ?_)
              clear hK K r0 r1 y0 y1 hk2 hk3 hz2
              try simp only [Act.put, List.setIfInBounds_toArray, List.set_cons_zero, List.set_cons_succ]
              refine wpAnyH_done (by kernel_rfl) ?_ _
              go_wp2_with fail
              go_meet
              exact HE.out
          · go_simp
            have HA21' := HA18.out.alloc (.cells #[.int .i64 0, .slice none 0 0] 58)
            have z12_21' := z12_18.out.alloc (.cells #[.int .i64 0, .slice none 0 0] 58)
            have g5_21' := g5_18.out.alloc (.cells #[.int .i64 0, .slice none 0 0] 58)
            have z13_21' : ZB g (W18.alloc (.cells #[.int .i64 0, .slice none 0 0] 58)) W18.heap.size := ⟨row_new rfl _ _, HA18.out.lt⟩
            have ne : xz12 ≠ W18.heap.size := by have := z12_18.out.1.lt; omega
            refine hK.out _ _ ⟨HA21'.row.cell (i := 0) rfl, HA21'.row.cell (i := 1) rfl⟩ (fun hHeld => ?_)
            clear hK K
            try simp only [Act.put, List.setIfInBounds_toArray, List.set_cons_zero, List.set_cons_succ]
            generalize W18.alloc (.cells #[.int .i64 0, .slice none 0 0] 58) = W21 at HA21' z12_21' g5_21' z13_21' hHeld ⊢
            generalize W18.heap.size = xz13 at z13_21' g5_21' ne ⊢
            have HA21 := Lib.hid HA21'
            have z12_21 := Lib.hid z12_21'
            have g5_21 := Lib.hid g5_21'
            have z13_21 := Lib.hid z13_21'
            clear HA21' z12_21' g5_21' z13_21' HA18 z12_18 g5_18
            refine wpAnyH_ready (rs := [11]) (by kernel_rfl) (by simp) ?_
            refine (AllReadyH.cons rfl (fun K hK => ?_) AllReadyH.nil)
            · go_simp
              go_at_call 81
              refine (HCD.out _ HA21.out).mono ?_
              rintro e W22 ⟨A11, c11, f11, rfl, HA22', hgr, hin11, hbt, hsz⟩
              have HI11 := Lib.hid hin11
              have g11_22' := GA.of (g := g) [xz13, xz12] hgr HA21.out.lt (fun x hx => by rcases List.mem_cons.1 hx with rfl | hx; exact z13_21.out.1.lt; rcases List.mem_cons.1 hx with rfl | hx; exact z12_21.out.1.lt; simp at hx)
              have z12_22' := z12_21.out.but hbt
              have g5_22' := g5_21.out.but hbt hsz
              have z13_22' := z13_21.out.but hbt
              refine hK.out _ _ ⟨HA22'.row.cell (i := 0) rfl, HA22'.row.cell (i := 1) rfl⟩ (fun hHeld => ?_)
              clear hK K hbt hsz hgr hin11
              try simp only [Act.put, List.setIfInBounds_toArray, List.set_cons_zero, List.set_cons_succ]
              have HA22 := Lib.hid HA22'
              have z12_22 := Lib.hid z12_22'
              have g5_22 := Lib.hid g5_22'
              have z13_22 := Lib.hid z13_22'
              have g11_22 := Lib.hid g11_22'
              clear HA22' z12_22' g5_22' z13_22' g11_22' HA21 z12_21 g5_21 z13_21
              obtain ⟨hL1, hL2, hL3⟩ := acts_leaf HA22.out g5_22.out g11_22.out HI5.out HI11.out z12_22.out z13_22.out ne (by simp) (by simp)
              have nn : xz12 ≠ xz13 := ne
              have HE := Lib.hid (show ActsMid w g p n (.pointer (some ⟨xz12, 0, none⟩)) (.pointer (some ⟨xz13, 0, none⟩)) _ from ⟨_, _, _, _, _, _, _, _, rfl, rfl, hL1, hL2, hL3⟩)
              have r0 := z12_22.out.1.cell (i := 0) rfl
              have r1 := z12_22.out.1.cell (i := 1) rfl
              have y0 := z12_22.out.1.frozen 0
              have y1 := z12_22.out.1.frozen 1
              have hk2 := (HA22.out.row.far (p := ⟨xz12, 0, none⟩) (by show g ≠ xz12; have := z12_22.out.2; omega) (.int .i64 p)).far (p := ⟨xz12, 1, none⟩) (by show g ≠ xz12; have := z12_22.out.2; omega) (.slice A5 n c5)
              have hz2 := ((z13_22.out.1.far (p := ⟨xz12, 0, none⟩) (Ne.symm nn) (.int .i64 p)).far (p := ⟨xz12, 1, none⟩) (Ne.symm nn) (.slice A5 n c5))
              have hgz : g ≠ xz13 := by have := z13_22.out.2; omega
              clear hL1 hL2 hL3 HA22 z12_22 g5_22 z13_22 g11_22 HI5 HI11
              refine wpAnyH_ready (rs := [14]) (by kernel_rfl) (by simp) ?_
              refine (AllReadyH.cons rfl (fun K hK => ?_) AllReadyH.nil)
              go_simp
              refine hK.out _ _ ⟨hk2.cell (i := 0) rfl, hk2.cell (i := 1) rfl⟩ (fun hHeld => ?_)
              clear hK K r0 r1 y0 y1
              try simp only [Act.put, List.setIfInBounds_toArray, List.set_cons_zero, List.set_cons_succ]
              have r0 := hz2.cell (i := 0) rfl
              have r1 := hz2.cell (i := 1) rfl
              have y0 := hz2.frozen 0
              have y1 := hz2.frozen 1
              have hk3 := (hk2.far (p := ⟨xz13, 0, none⟩) hgz (.int .i64 p)).far (p := ⟨xz13, 1, none⟩) hgz (.slice A11 n c11)
              refine wpAnyH_ready (rs := [15]) (by kernel_rfl) (by simp) ?_
              refine (AllReadyH.cons rfl (fun K hK => ?_) AllReadyH.nil)
              go_simp
              refine hK.out _ _ ⟨hk3.cell (i := 0) rfl, hk3.cell (i := 1) rfl⟩ (fun hHeld => ?_)
              clear hK K r0 r1 y0 y1 hk2 hk3 hz2
              try simp only [Act.put, List.setIfInBounds_toArray, List.set_cons_zero, List.set_cons_succ]
              refine wpAnyH_done (by kernel_rfl) ?_ _
              go_wp2_with fail
              go_meet
              exact HE.out
        · go_simp
          have HA23' := HA17.out.alloc (.cells #[.int .i64 0, .slice none 0 0] 58)
          have z12_23' := z12_17.out.alloc (.cells #[.int .i64 0, .slice none 0 0] 58)
          have z13_23' : ZB g (W17.alloc (.cells #[.int .i64 0, .slice none 0 0] 58)) W17.heap.size := ⟨row_new rfl _ _, HA17.out.lt⟩
          have ne : xz12 ≠ W17.heap.size := by have := z12_17.out.1.lt; omega
          refine hK.out _ _ ⟨HA23'.row.cell (i := 0) rfl, HA23'.row.cell (i := 1) rfl⟩ (fun hHeld => ?_)
          clear hK K
          try simp only [Act.put, List.setIfInBounds_toArray, List.set_cons_zero, List.set_cons_succ]
          generalize W17.alloc (.cells #[.int .i64 0, .slice none 0 0] 58) = W23 at HA23' z12_23' z13_23' hHeld ⊢
          generalize W17.heap.size = xz13 at z13_23'  ne ⊢
          have HA23 := Lib.hid HA23'
          have z12_23 := Lib.hid z12_23'
          have z13_23 := Lib.hid z13_23'
          clear HA23' z12_23' z13_23' HA17 z12_17
          refine wpAnyH_ready (rs := [5]) (by kernel_rfl) (by simp) ?_
          refine (AllReadyH.cons rfl (fun K hK => ?_) AllReadyH.nil)
          · go_simp
            go_at_call 81
            refine (HCD.out _ HA23.out).mono ?_
            rintro e W24 ⟨A5, c5, f5, rfl, HA24', hgr, hin5, hbt, hsz⟩
            have HI5 := Lib.hid hin5
            have g5_24' := GA.of (g := g) [xz13, xz12] hgr HA23.out.lt (fun x hx => by rcases List.mem_cons.1 hx with rfl | hx; exact z13_23.out.1.lt; rcases List.mem_cons.1 hx with rfl | hx; exact z12_23.out.1.lt; simp at hx)
            have z12_24' := z12_23.out.but hbt
            have z13_24' := z13_23.out.but hbt
            refine hK.out _ _ ⟨HA24'.row.cell (i := 0) rfl, HA24'.row.cell (i := 1) rfl⟩ (fun hHeld => ?_)
            clear hK K hbt hsz hgr hin5
            try simp only [Act.put, List.setIfInBounds_toArray, List.set_cons_zero, List.set_cons_succ]
            have HA24 := Lib.hid HA24'
            have z12_24 := Lib.hid z12_24'
            have z13_24 := Lib.hid z13_24'
            have g5_24 := Lib.hid g5_24'
            clear HA24' z12_24' z13_24' g5_24' HA23 z12_23 z13_23
            refine wpAnyH_ready (rs := [11]) (by kernel_rfl) (by simp) ?_
            refine (AllReadyH.cons rfl (fun K hK => ?_) AllReadyH.nil)
            · go_simp
              go_at_call 81
              refine (HCD.out _ HA24.out).mono ?_
              rintro e W25 ⟨A11, c11, f11, rfl, HA25', hgr, hin11, hbt, hsz⟩
              have HI11 := Lib.hid hin11
              have g11_25' := GA.of (g := g) [xz13, xz12] hgr HA24.out.lt (fun x hx => by rcases List.mem_cons.1 hx with rfl | hx; exact z13_24.out.1.lt; rcases List.mem_cons.1 hx with rfl | hx; exact z12_24.out.1.lt; simp at hx)
              have z12_25' := z12_24.out.but hbt
              have z13_25' := z13_24.out.but hbt
              have g5_25' := g5_24.out.but hbt hsz
              refine hK.out _ _ ⟨HA25'.row.cell (i := 0) rfl, HA25'.row.cell (i := 1) rfl⟩ (fun hHeld => ?_)
              clear hK K hbt hsz hgr hin11
              try simp only [Act.put, List.setIfInBounds_toArray, List.set_cons_zero, List.set_cons_succ]
              have HA25 := Lib.hid HA25'
              have z12_25 := Lib.hid z12_25'
              have z13_25 := Lib.hid z13_25'
              have g5_25 := Lib.hid g5_25'
              have g11_25 := Lib.hid g11_25'
              clear HA25' z12_25' z13_25' g5_25' g11_25' HA24 z12_24 z13_24 g5_24
              obtain ⟨hL1, hL2, hL3⟩ := acts_leaf HA25.out g5_25.out g11_25.out HI5.out HI11.out z12_25.out z13_25.out ne (by simp) (by simp)
              have nn : xz12 ≠ xz13 := ne
              have HE := Lib.hid (show ActsMid w g p n (.pointer (some ⟨xz12, 0, none⟩)) (.pointer (some ⟨xz13, 0, none⟩)) _ from ⟨_, _, _, _, _, _, _, _, rfl, rfl, hL1, hL2, hL3⟩)
              have r0 := z12_25.out.1.cell (i := 0) rfl
              have r1 := z12_25.out.1.cell (i := 1) rfl
              have y0 := z12_25.out.1.frozen 0
              have y1 := z12_25.out.1.frozen 1
              have hk2 := (HA25.out.row.far (p := ⟨xz12, 0, none⟩) (by show g ≠ xz12; have := z12_25.out.2; omega) (.int .i64 p)).far (p := ⟨xz12, 1, none⟩) (by show g ≠ xz12; have := z12_25.out.2; omega) (.slice A5 n c5)
              have hz2 := ((z13_25.out.1.far (p := ⟨xz12, 0, none⟩) (Ne.symm nn) (.int .i64 p)).far (p := ⟨xz12, 1, none⟩) (Ne.symm nn) (.slice A5 n c5))
              have hgz : g ≠ xz13 := by have := z13_25.out.2; omega
              clear hL1 hL2 hL3 HA25 z12_25 z13_25 g5_25 g11_25 HI5 HI11
              refine wpAnyH_ready (rs := [14]) (by kernel_rfl) (by simp) ?_
              refine (AllReadyH.cons rfl (fun K hK => ?_) AllReadyH.nil)
              go_simp
              refine hK.out _ _ ⟨hk2.cell (i := 0) rfl, hk2.cell (i := 1) rfl⟩ (fun hHeld => ?_)
              clear hK K r0 r1 y0 y1
              try simp only [Act.put, List.setIfInBounds_toArray, List.set_cons_zero, List.set_cons_succ]
              have r0 := hz2.cell (i := 0) rfl
              have r1 := hz2.cell (i := 1) rfl
              have y0 := hz2.frozen 0
              have y1 := hz2.frozen 1
              have hk3 := (hk2.far (p := ⟨xz13, 0, none⟩) hgz (.int .i64 p)).far (p := ⟨xz13, 1, none⟩) hgz (.slice A11 n c11)
              refine wpAnyH_ready (rs := [15]) (by kernel_rfl) (by simp) ?_
              refine (AllReadyH.cons rfl (fun K hK => ?_) AllReadyH.nil)
              go_simp
              refine hK.out _ _ ⟨hk3.cell (i := 0) rfl, hk3.cell (i := 1) rfl⟩ (fun hHeld => ?_)
              clear hK K r0 r1 y0 y1 hk2 hk3 hz2
              try simp only [Act.put, List.setIfInBounds_toArray, List.set_cons_zero, List.set_cons_succ]
              refine wpAnyH_done (by kernel_rfl) ?_ _
              go_wp2_with fail
              go_meet
              exact HE.out
      · go_simp
        have HA26' := HA0.out.alloc (.cells #[.int .i64 0, .slice none 0 0] 58)
        have z13_26' : ZB g (W0.alloc (.cells #[.int .i64 0, .slice none 0 0] 58)) W0.heap.size := ⟨row_new rfl _ _, HA0.out.lt⟩
        refine hK.out _ _ ⟨HA26'.row.cell (i := 0) rfl, HA26'.row.cell (i := 1) rfl⟩ (fun hHeld => ?_)
        clear hK K
        try simp only [Act.put, List.setIfInBounds_toArray, List.set_cons_zero, List.set_cons_succ]
        generalize W0.alloc (.cells #[.int .i64 0, .slice none 0 0] 58) = W26 at HA26' z13_26' hHeld ⊢
        generalize W0.heap.size = xz13 at z13_26'  ⊢
        have HA26 := Lib.hid HA26'
        have z13_26 := Lib.hid z13_26'
        clear HA26' z13_26' HA0 
        refine wpAnyH_ready (rs := [5, 12]) (by kernel_rfl) (by simp) ?_
        refine (AllReadyH.cons rfl (fun K hK => ?_) (AllReadyH.cons rfl (fun K hK => ?_) AllReadyH.nil))
        · go_simp
          go_at_call 81
          refine (HCD.out _ HA26.out).mono ?_
          rintro e W27 ⟨A5, c5, f5, rfl, HA27', hgr, hin5, hbt, hsz⟩
          have HI5 := Lib.hid hin5
          have g5_27' := GA.of (g := g) [xz13] hgr HA26.out.lt (fun x hx => by rcases List.mem_cons.1 hx with rfl | hx; exact z13_26.out.1.lt; simp at hx)
          have z13_27' := z13_26.out.but hbt
          refine hK.out _ _ ⟨HA27'.row.cell (i := 0) rfl, HA27'.row.cell (i := 1) rfl⟩ (fun hHeld => ?_)
          clear hK K hbt hsz hgr hin5
          try simp only [Act.put, List.setIfInBounds_toArray, List.set_cons_zero, List.set_cons_succ]
          have HA27 := Lib.hid HA27'
          have z13_27 := Lib.hid z13_27'
          have g5_27 := Lib.hid g5_27'
          clear HA27' z13_27' g5_27' HA26 z13_26
          refine wpAnyH_ready (rs := [11, 12]) (by kernel_rfl) (by simp) ?_
          refine (AllReadyH.cons rfl (fun K hK => ?_) (AllReadyH.cons rfl (fun K hK => ?_) AllReadyH.nil))
          · go_simp
            go_at_call 81
            refine (HCD.out _ HA27.out).mono ?_
            rintro e W28 ⟨A11, c11, f11, rfl, HA28', hgr, hin11, hbt, hsz⟩
            have HI11 := Lib.hid hin11
            have g11_28' := GA.of (g := g) [xz13] hgr HA27.out.lt (fun x hx => by rcases List.mem_cons.1 hx with rfl | hx; exact z13_27.out.1.lt; simp at hx)
            have z13_28' := z13_27.out.but hbt
            have g5_28' := g5_27.out.but hbt hsz
            refine hK.out _ _ ⟨HA28'.row.cell (i := 0) rfl, HA28'.row.cell (i := 1) rfl⟩ (fun hHeld => ?_)
            clear hK K hbt hsz hgr hin11
            try simp only [Act.put, List.setIfInBounds_toArray, List.set_cons_zero, List.set_cons_succ]
            have HA28 := Lib.hid HA28'
            have z13_28 := Lib.hid z13_28'
            have g5_28 := Lib.hid g5_28'
            have g11_28 := Lib.hid g11_28'
            clear HA28' z13_28' g5_28' g11_28' HA27 z13_27 g5_27
            refine wpAnyH_ready (rs := [12]) (by kernel_rfl) (by simp) ?_
            refine (AllReadyH.cons rfl (fun K hK => ?_) AllReadyH.nil)
            · go_simp
              have HA29' := HA28.out.alloc (.cells #[.int .i64 0, .slice none 0 0] 58)
              have z13_29' := z13_28.out.alloc (.cells #[.int .i64 0, .slice none 0 0] 58)
              have g5_29' := g5_28.out.alloc (.cells #[.int .i64 0, .slice none 0 0] 58)
              have g11_29' := g11_28.out.alloc (.cells #[.int .i64 0, .slice none 0 0] 58)
              have z12_29' : ZB g (W28.alloc (.cells #[.int .i64 0, .slice none 0 0] 58)) W28.heap.size := ⟨row_new rfl _ _, HA28.out.lt⟩
              have ne : xz13 ≠ W28.heap.size := by have := z13_28.out.1.lt; omega
              refine hK.out _ _ ⟨HA29'.row.cell (i := 0) rfl, HA29'.row.cell (i := 1) rfl⟩ (fun hHeld => ?_)
              clear hK K
              try simp only [Act.put, List.setIfInBounds_toArray, List.set_cons_zero, List.set_cons_succ]
              generalize W28.alloc (.cells #[.int .i64 0, .slice none 0 0] 58) = W29 at HA29' z13_29' g5_29' g11_29' z12_29' hHeld ⊢
              generalize W28.heap.size = xz12 at z12_29' g5_29' g11_29' ne ⊢
              have HA29 := Lib.hid HA29'
              have z13_29 := Lib.hid z13_29'
              have g5_29 := Lib.hid g5_29'
              have g11_29 := Lib.hid g11_29'
              have z12_29 := Lib.hid z12_29'
              clear HA29' z13_29' g5_29' g11_29' z12_29' HA28 z13_28 g5_28 g11_28
              obtain ⟨hL1, hL2, hL3⟩ := acts_leaf HA29.out g5_29.out g11_29.out HI5.out HI11.out z12_29.out z13_29.out (Ne.symm ne) (by simp) (by simp)
              have nn : xz12 ≠ xz13 := (Ne.symm ne)
              have HE := Lib.hid (show ActsMid w g p n (.pointer (some ⟨xz12, 0, none⟩)) (.pointer (some ⟨xz13, 0, none⟩)) _ from ⟨_, _, _, _, _, _, _, _, rfl, rfl, hL1, hL2, hL3⟩)
              have r0 := z12_29.out.1.cell (i := 0) rfl
              have r1 := z12_29.out.1.cell (i := 1) rfl
              have y0 := z12_29.out.1.frozen 0
              have y1 := z12_29.out.1.frozen 1
              have hk2 := (HA29.out.row.far (p := ⟨xz12, 0, none⟩) (by show g ≠ xz12; have := z12_29.out.2; omega) (.int .i64 p)).far (p := ⟨xz12, 1, none⟩) (by show g ≠ xz12; have := z12_29.out.2; omega) (.slice A5 n c5)
              have hz2 := ((z13_29.out.1.far (p := ⟨xz12, 0, none⟩) (Ne.symm nn) (.int .i64 p)).far (p := ⟨xz12, 1, none⟩) (Ne.symm nn) (.slice A5 n c5))
              have hgz : g ≠ xz13 := by have := z13_29.out.2; omega
              clear hL1 hL2 hL3 HA29 z13_29 g5_29 g11_29 z12_29 HI5 HI11
              refine wpAnyH_ready (rs := [14]) (by kernel_rfl) (by simp) ?_
              refine (AllReadyH.cons rfl (fun K hK => ?_) AllReadyH.nil)
              go_simp
              refine hK.out _ _ ⟨hk2.cell (i := 0) rfl, hk2.cell (i := 1) rfl⟩ (fun hHeld => ?_)
              clear hK K r0 r1 y0 y1
              try simp only [Act.put, List.setIfInBounds_toArray, List.set_cons_zero, List.set_cons_succ]
              have r0 := hz2.cell (i := 0) rfl
              have r1 := hz2.cell (i := 1) rfl
              have y0 := hz2.frozen 0
              have y1 := hz2.frozen 1
              have hk3 := (hk2.far (p := ⟨xz13, 0, none⟩) hgz (.int .i64 p)).far (p := ⟨xz13, 1, none⟩) hgz (.slice A11 n c11)
              refine wpAnyH_ready (rs := [15]) (by kernel_rfl) (by simp) ?_
              refine (AllReadyH.cons rfl (fun K hK => ?_) AllReadyH.nil)
              go_simp
              refine hK.out _ _ ⟨hk3.cell (i := 0) rfl, hk3.cell (i := 1) rfl⟩ (fun hHeld => ?_)
              clear hK K r0 r1 y0 y1 hk2 hk3 hz2
              try simp only [Act.put, List.setIfInBounds_toArray, List.set_cons_zero, List.set_cons_succ]
              refine wpAnyH_done (by kernel_rfl) ?_ _
              go_wp2_with fail
              go_meet
              exact HE.out
          · go_simp
            have HA30' := HA27.out.alloc (.cells #[.int .i64 0, .slice none 0 0] 58)
            have z13_30' := z13_27.out.alloc (.cells #[.int .i64 0, .slice none 0 0] 58)
            have g5_30' := g5_27.out.alloc (.cells #[.int .i64 0, .slice none 0 0] 58)
            have z12_30' : ZB g (W27.alloc (.cells #[.int .i64 0, .slice none 0 0] 58)) W27.heap.size := ⟨row_new rfl _ _, HA27.out.lt⟩
            have ne : xz13 ≠ W27.heap.size := by have := z13_27.out.1.lt; omega
            refine hK.out _ _ ⟨HA30'.row.cell (i := 0) rfl, HA30'.row.cell (i := 1) rfl⟩ (fun hHeld => ?_)
            clear hK K
            try simp only [Act.put, List.setIfInBounds_toArray, List.set_cons_zero, List.set_cons_succ]
            generalize W27.alloc (.cells #[.int .i64 0, .slice none 0 0] 58) = W30 at HA30' z13_30' g5_30' z12_30' hHeld ⊢
            generalize W27.heap.size = xz12 at z12_30' g5_30' ne ⊢
            have HA30 := Lib.hid HA30'
            have z13_30 := Lib.hid z13_30'
            have g5_30 := Lib.hid g5_30'
            have z12_30 := Lib.hid z12_30'
            clear HA30' z13_30' g5_30' z12_30' HA27 z13_27 g5_27
            refine wpAnyH_ready (rs := [11]) (by kernel_rfl) (by simp) ?_
            refine (AllReadyH.cons rfl (fun K hK => ?_) AllReadyH.nil)
            · go_simp
              go_at_call 81
              refine (HCD.out _ HA30.out).mono ?_
              rintro e W31 ⟨A11, c11, f11, rfl, HA31', hgr, hin11, hbt, hsz⟩
              have HI11 := Lib.hid hin11
              have g11_31' := GA.of (g := g) [xz12, xz13] hgr HA30.out.lt (fun x hx => by rcases List.mem_cons.1 hx with rfl | hx; exact z12_30.out.1.lt; rcases List.mem_cons.1 hx with rfl | hx; exact z13_30.out.1.lt; simp at hx)
              have z13_31' := z13_30.out.but hbt
              have g5_31' := g5_30.out.but hbt hsz
              have z12_31' := z12_30.out.but hbt
              refine hK.out _ _ ⟨HA31'.row.cell (i := 0) rfl, HA31'.row.cell (i := 1) rfl⟩ (fun hHeld => ?_)
              clear hK K hbt hsz hgr hin11
              try simp only [Act.put, List.setIfInBounds_toArray, List.set_cons_zero, List.set_cons_succ]
              have HA31 := Lib.hid HA31'
              have z13_31 := Lib.hid z13_31'
              have g5_31 := Lib.hid g5_31'
              have z12_31 := Lib.hid z12_31'
              have g11_31 := Lib.hid g11_31'
              clear HA31' z13_31' g5_31' z12_31' g11_31' HA30 z13_30 g5_30 z12_30
              obtain ⟨hL1, hL2, hL3⟩ := acts_leaf HA31.out g5_31.out g11_31.out HI5.out HI11.out z12_31.out z13_31.out (Ne.symm ne) (by simp) (by simp)
              have nn : xz12 ≠ xz13 := (Ne.symm ne)
              have HE := Lib.hid (show ActsMid w g p n (.pointer (some ⟨xz12, 0, none⟩)) (.pointer (some ⟨xz13, 0, none⟩)) _ from ⟨_, _, _, _, _, _, _, _, rfl, rfl, hL1, hL2, hL3⟩)
              have r0 := z12_31.out.1.cell (i := 0) rfl
              have r1 := z12_31.out.1.cell (i := 1) rfl
              have y0 := z12_31.out.1.frozen 0
              have y1 := z12_31.out.1.frozen 1
              have hk2 := (HA31.out.row.far (p := ⟨xz12, 0, none⟩) (by show g ≠ xz12; have := z12_31.out.2; omega) (.int .i64 p)).far (p := ⟨xz12, 1, none⟩) (by show g ≠ xz12; have := z12_31.out.2; omega) (.slice A5 n c5)
              have hz2 := ((z13_31.out.1.far (p := ⟨xz12, 0, none⟩) (Ne.symm nn) (.int .i64 p)).far (p := ⟨xz12, 1, none⟩) (Ne.symm nn) (.slice A5 n c5))
              have hgz : g ≠ xz13 := by have := z13_31.out.2; omega
              clear hL1 hL2 hL3 HA31 z13_31 g5_31 z12_31 g11_31 HI5 HI11
              refine wpAnyH_ready (rs := [14]) (by kernel_rfl) (by simp) ?_
              refine (AllReadyH.cons rfl (fun K hK => ?_) AllReadyH.nil)
              go_simp
              refine hK.out _ _ ⟨hk2.cell (i := 0) rfl, hk2.cell (i := 1) rfl⟩ (fun hHeld => ?_)
              clear hK K r0 r1 y0 y1
              try simp only [Act.put, List.setIfInBounds_toArray, List.set_cons_zero, List.set_cons_succ]
              have r0 := hz2.cell (i := 0) rfl
              have r1 := hz2.cell (i := 1) rfl
              have y0 := hz2.frozen 0
              have y1 := hz2.frozen 1
              have hk3 := (hk2.far (p := ⟨xz13, 0, none⟩) hgz (.int .i64 p)).far (p := ⟨xz13, 1, none⟩) hgz (.slice A11 n c11)
              refine wpAnyH_ready (rs := [15]) (by kernel_rfl) (by simp) ?_
              refine (AllReadyH.cons rfl (fun K hK => ?_) AllReadyH.nil)
              go_simp
              refine hK.out _ _ ⟨hk3.cell (i := 0) rfl, hk3.cell (i := 1) rfl⟩ (fun hHeld => ?_)
              clear hK K r0 r1 y0 y1 hk2 hk3 hz2
              try simp only [Act.put, List.setIfInBounds_toArray, List.set_cons_zero, List.set_cons_succ]
              refine wpAnyH_done (by kernel_rfl) ?_ _
              go_wp2_with fail
              go_meet
              exact HE.out
        · go_simp
          have HA32' := HA26.out.alloc (.cells #[.int .i64 0, .slice none 0 0] 58)
          have z13_32' := z13_26.out.alloc (.cells #[.int .i64 0, .slice none 0 0] 58)
          have z12_32' : ZB g (W26.alloc (.cells #[.int .i64 0, .slice none 0 0] 58)) W26.heap.size := ⟨row_new rfl _ _, HA26.out.lt⟩
          have ne : xz13 ≠ W26.heap.size := by have := z13_26.out.1.lt; omega
          refine hK.out _ _ ⟨HA32'.row.cell (i := 0) rfl, HA32'.row.cell (i := 1) rfl⟩ (fun hHeld => ?_)
          clear hK K
          try simp only [Act.put, List.setIfInBounds_toArray, List.set_cons_zero, List.set_cons_succ]
          generalize W26.alloc (.cells #[.int .i64 0, .slice none 0 0] 58) = W32 at HA32' z13_32' z12_32' hHeld ⊢
          generalize W26.heap.size = xz12 at z12_32'  ne ⊢
          have HA32 := Lib.hid HA32'
          have z13_32 := Lib.hid z13_32'
          have z12_32 := Lib.hid z12_32'
          clear HA32' z13_32' z12_32' HA26 z13_26
          refine wpAnyH_ready (rs := [5]) (by kernel_rfl) (by simp) ?_
          refine (AllReadyH.cons rfl (fun K hK => ?_) AllReadyH.nil)
          · go_simp
            go_at_call 81
            refine (HCD.out _ HA32.out).mono ?_
            rintro e W33 ⟨A5, c5, f5, rfl, HA33', hgr, hin5, hbt, hsz⟩
            have HI5 := Lib.hid hin5
            have g5_33' := GA.of (g := g) [xz12, xz13] hgr HA32.out.lt (fun x hx => by rcases List.mem_cons.1 hx with rfl | hx; exact z12_32.out.1.lt; rcases List.mem_cons.1 hx with rfl | hx; exact z13_32.out.1.lt; simp at hx)
            have z13_33' := z13_32.out.but hbt
            have z12_33' := z12_32.out.but hbt
            refine hK.out _ _ ⟨HA33'.row.cell (i := 0) rfl, HA33'.row.cell (i := 1) rfl⟩ (fun hHeld => ?_)
            clear hK K hbt hsz hgr hin5
            try simp only [Act.put, List.setIfInBounds_toArray, List.set_cons_zero, List.set_cons_succ]
            have HA33 := Lib.hid HA33'
            have z13_33 := Lib.hid z13_33'
            have z12_33 := Lib.hid z12_33'
            have g5_33 := Lib.hid g5_33'
            clear HA33' z13_33' z12_33' g5_33' HA32 z13_32 z12_32
            refine wpAnyH_ready (rs := [11]) (by kernel_rfl) (by simp) ?_
            refine (AllReadyH.cons rfl (fun K hK => ?_) AllReadyH.nil)
            · go_simp
              go_at_call 81
              refine (HCD.out _ HA33.out).mono ?_
              rintro e W34 ⟨A11, c11, f11, rfl, HA34', hgr, hin11, hbt, hsz⟩
              have HI11 := Lib.hid hin11
              have g11_34' := GA.of (g := g) [xz12, xz13] hgr HA33.out.lt (fun x hx => by rcases List.mem_cons.1 hx with rfl | hx; exact z12_33.out.1.lt; rcases List.mem_cons.1 hx with rfl | hx; exact z13_33.out.1.lt; simp at hx)
              have z13_34' := z13_33.out.but hbt
              have z12_34' := z12_33.out.but hbt
              have g5_34' := g5_33.out.but hbt hsz
              refine hK.out _ _ ⟨HA34'.row.cell (i := 0) rfl, HA34'.row.cell (i := 1) rfl⟩ (fun hHeld => ?_)
              clear hK K hbt hsz hgr hin11
              try simp only [Act.put, List.setIfInBounds_toArray, List.set_cons_zero, List.set_cons_succ]
              have HA34 := Lib.hid HA34'
              have z13_34 := Lib.hid z13_34'
              have z12_34 := Lib.hid z12_34'
              have g5_34 := Lib.hid g5_34'
              have g11_34 := Lib.hid g11_34'
              clear HA34' z13_34' z12_34' g5_34' g11_34' HA33 z13_33 z12_33 g5_33
              obtain ⟨hL1, hL2, hL3⟩ := acts_leaf HA34.out g5_34.out g11_34.out HI5.out HI11.out z12_34.out z13_34.out (Ne.symm ne) (by simp) (by simp)
              have nn : xz12 ≠ xz13 := (Ne.symm ne)
              have HE := Lib.hid (show ActsMid w g p n (.pointer (some ⟨xz12, 0, none⟩)) (.pointer (some ⟨xz13, 0, none⟩)) _ from ⟨_, _, _, _, _, _, _, _, rfl, rfl, hL1, hL2, hL3⟩)
              have r0 := z12_34.out.1.cell (i := 0) rfl
              have r1 := z12_34.out.1.cell (i := 1) rfl
              have y0 := z12_34.out.1.frozen 0
              have y1 := z12_34.out.1.frozen 1
              have hk2 := (HA34.out.row.far (p := ⟨xz12, 0, none⟩) (by show g ≠ xz12; have := z12_34.out.2; omega) (.int .i64 p)).far (p := ⟨xz12, 1, none⟩) (by show g ≠ xz12; have := z12_34.out.2; omega) (.slice A5 n c5)
              have hz2 := ((z13_34.out.1.far (p := ⟨xz12, 0, none⟩) (Ne.symm nn) (.int .i64 p)).far (p := ⟨xz12, 1, none⟩) (Ne.symm nn) (.slice A5 n c5))
              have hgz : g ≠ xz13 := by have := z13_34.out.2; omega
              clear hL1 hL2 hL3 HA34 z13_34 z12_34 g5_34 g11_34 HI5 HI11
              refine wpAnyH_ready (rs := [14]) (by kernel_rfl) (by simp) ?_
              refine (AllReadyH.cons rfl (fun K hK => ?_) AllReadyH.nil)
              go_simp
              refine hK.out _ _ ⟨hk2.cell (i := 0) rfl, hk2.cell (i := 1) rfl⟩ (fun hHeld => ?_)
              clear hK K r0 r1 y0 y1
              try simp only [Act.put, List.setIfInBounds_toArray, List.set_cons_zero, List.set_cons_succ]
              have r0 := hz2.cell (i := 0) rfl
              have r1 := hz2.cell (i := 1) rfl
              have y0 := hz2.frozen 0
              have y1 := hz2.frozen 1
              have hk3 := (hk2.far (p := ⟨xz13, 0, none⟩) hgz (.int .i64 p)).far (p := ⟨xz13, 1, none⟩) hgz (.slice A11 n c11)
              refine wpAnyH_ready (rs := [15]) (by kernel_rfl) (by simp) ?_
              refine (AllReadyH.cons rfl (fun K hK => ?_) AllReadyH.nil)
              go_simp
              refine hK.out _ _ ⟨hk3.cell (i := 0) rfl, hk3.cell (i := 1) rfl⟩ (fun hHeld => ?_)
              clear hK K r0 r1 y0 y1 hk2 hk3 hz2
              try simp only [Act.put, List.setIfInBounds_toArray, List.set_cons_zero, List.set_cons_succ]
              refine wpAnyH_done (by kernel_rfl) ?_ _
              go_wp2_with fail
              go_meet
              exact HE.out
    case rest =>
      obtain ⟨a, b, Aa, ca, Ab, cb, fa, fb, rfl, rfl, hml, hbw, hrg⟩ := hcut
      have HL := Lib.hid hml
      have HB := Lib.hid hbw
      have HG := Lib.hid hrg
      clear HG3 HT3 HB3 hml hbw hrg hgt hgw
      have HFa := Lib.hid (show InG (p : Int) n n fa from (HL.out 1 _ rfl).2.2)
      have HFb := Lib.hid (show InG (p : Int) n n fb from (HL.out 0 _ rfl).2.2)
      have hA1 := detV_in HS.out.p1 HS.out.inv (Nat.le_refl n) HFa.out
      have hA2 := detV_in HS.out.p1 HS.out.inv (Nat.le_refl n) HFb.out
      have hA3 := detV_mul HS.out.p1 HS.out.inv HFa.out HFb.out
      obtain ⟨d1, E1⟩ : ∃ d : Nat, detV p n fa = d := ⟨(detV p n fa).toNat, by omega⟩
      obtain ⟨d2, E2⟩ : ∃ d : Nat, detV p n fb = d := ⟨(detV p n fb).toNat, by omega⟩
      obtain ⟨M, hM⟩ : ∃ M, p ^ n = M := ⟨_, rfl⟩
      have hM64 : M ≤ 64 := by rw [← hM]; exact HPN.out
      have hM1 : 1 ≤ M := by rw [← hM]; exact Nat.one_le_pow _ _ (by omega)
      have HM := Lib.hid hM
      clear hM
      have HNZ := Lib.hid (fun h1 h2 => det_nz HS.out.p1 HS.out.inv hA1 hA2 h1 h2)
      rw [← hA3] at HNZ
      have HE1 := Lib.hid E1
      have HE2 := Lib.hid E2
      have HE3 := Lib.hid hA3
      clear hA1 hA2 hA3 E1 E2
      have k0 := HL.out.c0 1 rfl
      have k1 := HL.out.c1 1 rfl
      have k2 := HL.out.c0 0 rfl
      have k3 := HL.out.c1 0 rfl
      go_wp2_with fail
      clear k0 k1 k2 k3
      refine (mulL HS.out HL.out 1 0 rfl rfl).mono ?_
      rintro e w8 ⟨A8, c8, rfl, hg, hf, hb⟩
      replace HL := Lib.hid (HL.out.cons hb hg hf)
      replace HG := Lib.hid ((HG.out.below hb HG.out.lt).alloc (.cells #[.int .i64 p, .slice A8 n c8] 58))
      replace HB := Lib.hid ((HB.out.trans (hb.mono HB.out.size)).alloc (Nat.le_trans HB.out.size hb.size) (.cells #[.int .i64 p, .slice A8 n c8] 58))
      clear hb hg hf
      have k0 := HL.out.c0 2 rfl
      have k1 := HL.out.c1 2 rfl
      go_wp2_with fail
      clear k0 k1
      by_cases h1 : d1 = 0
      · have e1 : detV p n fa = 0 := by rw [HE1.out, h1]; rfl
        have e3 : detV p n (mulF p n fa fb) = 0 := by rw [HE3.out, e1]; simp
        have X1 := Lib.hid e1
        have X3 := Lib.hid e3
        clear e1 e3
        refine (permL0 HS.out HL.out 2 rfl HPN.out X1.out).mono ?_
        rintro e w9 ⟨rfl, hb⟩
        replace HL := Lib.hid (HL.out.below hb)
        replace HG := Lib.hid (HG.out.below hb HG.out.lt)
        replace HB := Lib.hid (HB.out.trans (hb.mono HB.out.size))
        clear hb
        have k0 := HL.out.c0 1 rfl
        have k1 := HL.out.c1 1 rfl
        go_wp2_with fail
        clear k0 k1
        by_cases h2 : d2 = 0
        · have X2 := Lib.hid (show detV p n fb = 0 by rw [HE2.out, h2]; rfl)
          refine (permL0 HS.out HL.out 1 rfl HPN.out X2.out).mono ?_
          rintro e w10 ⟨rfl, hb⟩
          replace HL := Lib.hid (HL.out.below hb)
          replace HG := Lib.hid (HG.out.below hb HG.out.lt)
          replace HB := Lib.hid (HB.out.trans (hb.mono HB.out.size))
          clear hb
          have k0 := HL.out.c0 0 rfl
          have k1 := HL.out.c1 0 rfl
          go_wp2_with fail
          clear k0 k1
          refine (permL0 HS.out HL.out 0 rfl HPN.out X3.out).mono ?_
          rintro e w11 ⟨rfl, hb⟩
          replace HL := Lib.hid (HL.out.below hb)
          replace HG := Lib.hid (HG.out.below hb HG.out.lt)
          replace HB := Lib.hid (HB.out.trans (hb.mono HB.out.size))
          clear hb
          have k0 := HL.out.c0 2 rfl
          have k1 := HL.out.c1 2 rfl
          go_wp2_with fail
          clear k0 k1
          refine (detL HS.out HL.out 2 rfl 0 X1.out).mono ?_
          rintro e w12 ⟨rfl, hb⟩
          replace HL := Lib.hid (HL.out.below hb)
          replace HG := Lib.hid (HG.out.below hb HG.out.lt)
          replace HB := Lib.hid (HB.out.trans (hb.mono HB.out.size))
          clear hb
          go_wp2_with fail
          go_ret
          exact ⟨rfl, HB.out⟩
        · have X2 := Lib.hid (show detV p n fb ≠ 0 by rw [HE2.out]; omega)
          refine (permL1 HS.out HL.out 1 rfl HM.out hM64 X2.out).mono ?_
          rintro e w10 ⟨Aq, cq, rfl, hv, hb⟩
          replace HL := Lib.hid (HL.out.below hb)
          replace HG := Lib.hid (HG.out.below hb HG.out.lt)
          have HVq := Lib.hid hv
          replace HB := Lib.hid (HB.out.trans (hb.mono HB.out.size))
          clear hb hv
          have k0 := HL.out.c0 0 rfl
          have k1 := HL.out.c1 0 rfl
          go_wp2_with fail
          clear k0 k1
          refine (permL0 HS.out HL.out 0 rfl HPN.out X3.out).mono ?_
          rintro e w11 ⟨rfl, hb⟩
          replace HL := Lib.hid (HL.out.below hb)
          replace HG := Lib.hid (HG.out.below hb HG.out.lt)
          replace HB := Lib.hid (HB.out.trans (hb.mono HB.out.size))
          clear hb
          have k0 := HL.out.c0 2 rfl
          have k1 := HL.out.c1 2 rfl
          go_wp2_with fail
          clear k0 k1
          refine (detL HS.out HL.out 2 rfl 0 X1.out).mono ?_
          rintro e w12 ⟨rfl, hb⟩
          replace HL := Lib.hid (HL.out.below hb)
          replace HG := Lib.hid (HG.out.below hb HG.out.lt)
          replace HB := Lib.hid (HB.out.trans (hb.mono HB.out.size))
          clear hb
          go_wp2_with fail
          go_ret
          exact ⟨rfl, HB.out⟩
      · have X1 := Lib.hid (show detV p n fa ≠ 0 by rw [HE1.out]; omega)
        refine (permL1 HS.out HL.out 2 rfl HM.out hM64 X1.out).mono ?_
        rintro e w9 ⟨Ap, cp, rfl, hv, hb⟩
        replace HL := Lib.hid (HL.out.below hb)
        replace HG := Lib.hid (HG.out.below hb HG.out.lt)
        have HVp := Lib.hid hv
        replace HB := Lib.hid (HB.out.trans (hb.mono HB.out.size))
        clear hb hv
        have k0 := HL.out.c0 1 rfl
        have k1 := HL.out.c1 1 rfl
        go_wp2_with fail
        clear k0 k1
        by_cases h2 : d2 = 0
        · have X2 := Lib.hid (show detV p n fb = 0 by rw [HE2.out, h2]; rfl)
          have X3 := Lib.hid (show detV p n (mulF p n fa fb) = 0 by rw [HE3.out, X2.out]; simp)
          have t1 : ((d1 : Int) == 0) = false := by simp; exact h1
          refine (permL0 HS.out HL.out 1 rfl HPN.out X2.out).mono ?_
          rintro e w10 ⟨rfl, hb⟩
          replace HL := Lib.hid (HL.out.below hb)
          replace HG := Lib.hid (HG.out.below hb HG.out.lt)
          replace HVp := Lib.hid (HVp.out.on hb)
          replace HB := Lib.hid (HB.out.trans (hb.mono HB.out.size))
          clear hb
          have k0 := HL.out.c0 0 rfl
          have k1 := HL.out.c1 0 rfl
          go_wp2_with fail
          clear k0 k1
          refine (permL0 HS.out HL.out 0 rfl HPN.out X3.out).mono ?_
          rintro e w11 ⟨rfl, hb⟩
          replace HL := Lib.hid (HL.out.below hb)
          replace HG := Lib.hid (HG.out.below hb HG.out.lt)
          replace HVp := Lib.hid (HVp.out.on hb)
          replace HB := Lib.hid (HB.out.trans (hb.mono HB.out.size))
          clear hb
          have k0 := HL.out.c0 2 rfl
          have k1 := HL.out.c1 2 rfl
          go_wp2_with fail
          clear k0 k1
          refine (detL HS.out HL.out 2 rfl d1 HE1.out).mono ?_
          rintro e w12 ⟨rfl, hb⟩
          replace HL := Lib.hid (HL.out.below hb)
          replace HG := Lib.hid (HG.out.below hb HG.out.lt)
          replace HVp := Lib.hid (HVp.out.on hb)
          replace HB := Lib.hid (HB.out.trans (hb.mono HB.out.size))
          clear hb
          go_wp2_with fail
          go_ret
          exact ⟨rfl, HB.out⟩
        · have X2 := Lib.hid (show detV p n fb ≠ 0 by rw [HE2.out]; omega)
          have X3 := Lib.hid (HNZ.out X1.out X2.out)
          have t1 : ((d1 : Int) == 0) = false := by simp; exact h1
          refine (permL1 HS.out HL.out 1 rfl HM.out hM64 X2.out).mono ?_
          rintro e w10 ⟨Aq, cq, rfl, hv, hb⟩
          replace HL := Lib.hid (HL.out.below hb)
          replace HG := Lib.hid (HG.out.below hb HG.out.lt)
          replace HVp := Lib.hid (HVp.out.on hb)
          have HVq := Lib.hid hv
          replace HB := Lib.hid (HB.out.trans (hb.mono HB.out.size))
          clear hb hv
          have k0 := HL.out.c0 0 rfl
          have k1 := HL.out.c1 0 rfl
          go_wp2_with fail
          clear k0 k1
          refine (permL1 HS.out HL.out 0 rfl HM.out hM64 X3.out).mono ?_
          rintro e w11 ⟨Aw, cw, rfl, hv, hb⟩
          replace HL := Lib.hid (HL.out.below hb)
          replace HG := Lib.hid (HG.out.below hb HG.out.lt)
          replace HVp := Lib.hid (HVp.out.on hb)
          replace HVq := Lib.hid (HVq.out.on hb)
          have HVw := Lib.hid hv
          replace HB := Lib.hid (HB.out.trans (hb.mono HB.out.size))
          clear hb hv
          have k0 := HL.out.c0 2 rfl
          have k1 := HL.out.c1 2 rfl
          go_wp2_with fail
          clear k0 k1
          refine (detL HS.out HL.out 2 rfl d1 HE1.out).mono ?_
          rintro e w12 ⟨rfl, hb⟩
          replace HL := Lib.hid (HL.out.below hb)
          replace HG := Lib.hid (HG.out.below hb HG.out.lt)
          replace HVp := Lib.hid (HVp.out.on hb)
          replace HVq := Lib.hid (HVq.out.on hb)
          replace HVw := Lib.hid (HVw.out.on hb)
          replace HB := Lib.hid (HB.out.trans (hb.mono HB.out.size))
          clear hb
          go_wp2_with fail
          have HPl := Lib.hid (fun (F : Nat → Nat → Int) j (_ : j < M) => (show permV p n F j < M by rw [← HM.out]; exact permV_lt (by omega) F j))
          have HIa := Lib.hid (show ∀ i j, i < M → j < M → permV p n fa i = permV p n fa j → i = j from fun i j hi hj h => permV_inj HS.out.p1 HS.out.inv HFa.out X1.out (by rw [HM.out]; exact hi) (by rw [HM.out]; exact hj) h)
          have HIb := Lib.hid (show ∀ i j, i < M → j < M → permV p n fb i = permV p n fb j → i = j from fun i j hi hj h => permV_inj HS.out.p1 HS.out.inv HFb.out X2.out (by rw [HM.out]; exact hi) (by rw [HM.out]; exact hj) h)
          have HSE := Lib.hid (show eqB M (natF fun j => permV p n fb (permV p n fa j)) (natF (permV p n (mulF p n fa fb))) = true from decide_eq_true fun j _ => by show ((permV p n fb (permV p n fa j) : Nat) : Int) = (permV p n (mulF p n fa fb) j : Nat); rw [permV_mul (by omega)])
          obtain ⟨N', ho1, ho2, ho3, ho4⟩ := permV_ord HS.out.p1 HS.out.inv HFa.out X1.out (by rw [HM.out]; exact Nat.le_trans (Nat.mul_le_mul hM64 hM64) (by omega))
          rw [HM.out] at ho4
          have HO1 := Lib.hid ho1
          have HO4 := Lib.hid ho4
          clear ho1 ho4
          have HZ0 := Lib.hid (show natF (permV p n fa) 0 = 0 by show ((permV p n fa 0 : Nat) : Int) = 0; rw [permV_zero]; rfl)
          generalize permV p n (mulF p n fa fb) = Pw at HVw HSE
          have HPq := Lib.hid (HPl.out fb)
          generalize permV p n fb = Pb at HVq HSE HIb HPq
          have HPp := Lib.hid (HPl.out fa)
          clear HPl
          generalize permV p n fa = Pa at HVp HSE HIa HO4 HZ0 HPp
          go_loopw [19, 20] (fun s i wr => ∃ k q : Nat, i = .int .i64 k ∧ s = .int .i64 q ∧ Hid (p ^ k = q) ∧ k ≤ n ∧ wr = w12) (fun _ i _ => n - (intOf i).toNat)
          case atStart => exact ⟨0, 1, rfl, rfl, Lib.hid (Nat.pow_zero p), Nat.zero_le _, rfl⟩
          case round =>
            obtain ⟨k, q, rfl, rfl, hq, hk, hwr⟩ := hrel
            subst hwr
            have hg0 := HG.out.cell (i := 0) rfl
            have hg1 := HG.out.cell (i := 1) rfl
            by_cases hlt : k < n
            · have dk : decide ((k : Int) < (n : Int)) = true := decide_eq_true (by omega)
              obtain ⟨y, hy⟩ : ∃ y, q * p = y := ⟨_, rfl⟩
              have hy1 : p ^ (k + 1) = y := by rw [Nat.pow_succ, hq.out, hy]
              have hy2 : y ≤ M := by rw [← hy1, ← HM.out]; exact Nat.pow_le_pow_right (by omega) (by omega)
              have mz := wrap_mul hy (by omega)
              have HY := Lib.hid hy1
              clear hy hy1
              go_wp2_with fail
              go_roundw
              case rel => exact ⟨k + 1, y, by go_num, by first | rfl | trivial, HY, by omega, by first | rfl | trivial⟩
              case measure => simp [intOf]; omega
            · have dk : decide ((k : Int) < (n : Int)) = false := decide_eq_false (by omega)
              have hqM : q = M := by rw [← hq.out, ← HM.out, show k = n by omega]
              subst hqM
              go_wp2_with fail
              clear hg0 hg1 dk hlt hk hq
              refine (kitFine_any _ q Pa _ hM1 (by omega) HPp.out HIa.out HVp.out).mono ?_
              rintro e w13 ⟨rfl, hb⟩
              replace HL := Lib.hid (HL.out.below hb)
              replace HVp := Lib.hid (HVp.out.on hb)
              replace HVq := Lib.hid (HVq.out.on hb)
              replace HVw := Lib.hid (HVw.out.on hb)
              replace HB := Lib.hid (HB.out.trans (hb.mono HB.out.size))
              clear hb
              go_wp2_with fail
              refine (kitFine_any _ q Pb _ hM1 (by omega) HPq.out HIb.out HVq.out).mono ?_
              rintro e w14 ⟨rfl, hb⟩
              replace HL := Lib.hid (HL.out.below hb)
              replace HVp := Lib.hid (HVp.out.on hb)
              replace HVq := Lib.hid (HVq.out.on hb)
              replace HVw := Lib.hid (HVw.out.on hb)
              replace HB := Lib.hid (HB.out.trans (hb.mono HB.out.size))
              clear hb
              go_wp2_with fail
              refine (kitMul_any _ _ q Pa Pb _ hM1 (by omega) HPp.out HVp.out HVq.out).mono ?_
              rintro e w15 ⟨v1, rfl, hv, hb⟩
              obtain ⟨A1, c1, rfl, -⟩ := hv.form
              replace HL := Lib.hid (HL.out.below hb)
              replace HVp := Lib.hid (HVp.out.on hb)
              replace HVw := Lib.hid (HVw.out.on hb)
              replace HB := Lib.hid (HB.out.trans (hb.mono HB.out.size))
              have HV1 := Lib.hid hv.new_lt
              clear hb hv HVq
              go_wp2_with fail
              refine (row_same _ _ q _ _ _ _ _ (by omega) HV1.out HVw.out).mono ?_
              rintro e w16 ⟨rfl, kq, rfl⟩
              rw [HSE.out]
              have hb := below_drewN (Below.refl w15.heap.size w15) kq
              replace HL := Lib.hid (HL.out.below hb)
              replace HVp := Lib.hid (HVp.out.on hb)
              replace HB := Lib.hid (HB.out.trans (hb.mono HB.out.size))
              generalize w15.drewN kq = w16 at hb HL HVp HB ⊢
              obtain ⟨bp, op, cpp, cpe, -, hlp, hcp⟩ := HVp.out.at_ (by omega)
              cases cpe
              have hp0 := hcp 0 (by omega)
              rw [HZ0.out] at hp0
              have hp1 := hp0
              rw [Nat.add_zero] at hp1
              clear hb HV1 HVw HSE hcp
              have j0 := HL.out.c0 2 rfl
              have j1 := HL.out.c1 2 rfl
              go_wp2_with fail
              clear hp0 hp1 j0 j1
              refine (ordL HS.out HL.out 2 rfl).mono ?_
              rintro e w17 ⟨he, hb⟩
              rw [HO1.out] at he
              obtain rfl := he
              replace HVp := Lib.hid (HVp.out.on hb)
              replace HB := Lib.hid (HB.out.trans (hb.mono HB.out.size))
              clear hb HL
              go_wp2_with fail
              refine (kitOne_any q _ (by omega)).mono ?_
              rintro e w18 ⟨v2, rfl, hv, hb⟩
              replace HVp := Lib.hid (HVp.out.on hb)
              replace HB := Lib.hid (HB.out.trans (hb.mono HB.out.size))
              have HV2 := Lib.hid hv.new_lt
              clear hb hv
              go_wp2_with fail
              go_loopw [23, 24] (fun s i wr => ∃ j : Nat, i = .int .i64 (j + 1 : Nat) ∧ j ≤ N' ∧ Vec wr (· < wr.heap.size) s q (natF (itn Pa j)) ∧ Vec wr (· < wr.heap.size) (.slice (some ⟨bp, op, none⟩) q cp) q (natF Pa) ∧ Below w.heap.size w wr) (fun _ i _ => N' + 1 - (intOf i).toNat)
              case atStart => exact ⟨0, rfl, Nat.zero_le _, HV2.out, HVp.out, HB.out⟩
              case round =>
                obtain ⟨j, rfl, hj, hvx, hvp, hbw⟩ := hrel
                obtain ⟨Ax, cx, rfl, -⟩ := hvx.form
                have HVx := Lib.hid hvx
                have HVP := Lib.hid hvp
                have HBW := Lib.hid hbw
                clear hvx hvp hbw HV2 HVp HB
                have HPj := Lib.hid (show ∀ i, i < q → itn Pa j i < q from fun i hi => by
                  clear HVx
                  induction j with
                  | zero => exact hi
                  | succ j ih => exact HPp.out _ (ih (by omega)))
                by_cases hlt : j < N'
                · have dj : decide (((j + 1 : Nat) : Int) ≤ (N' : Int)) = true := decide_eq_true (by omega)
                  have HEQ := Lib.hid (HO4.out (j + 1) (by omega) (by omega))
                  obtain ⟨B, hB⟩ : ∃ B, decide (j + 1 = N') = B := ⟨_, rfl⟩
                  rw [hB] at HEQ
                  have eq1 : (((j + 1 : Nat) : Int) == (N' : Int)) = B := by
                    rw [← hB, Bool.eq_iff_iff, beq_iff_eq, decide_eq_true_eq]
                    omega
                  clear hB
                  go_wp2_with fail
                  refine (kitMul_any _ _ q (itn Pa j) Pa _ hM1 (by omega) HPj.out HVx.out HVP.out).mono ?_
                  rintro e wa ⟨v3, rfl, hv, hb⟩
                  obtain ⟨A3, c3, rfl, -⟩ := hv.form
                  have HV3 := Lib.hid hv.new_lt
                  replace HVP := Lib.hid (HVP.out.on hb)
                  replace HBW := Lib.hid (HBW.out.trans (hb.mono HBW.out.size))
                  clear hv hb HVx
                  go_wp2_with fail
                  refine (kitOne_any q _ (by omega)).mono ?_
                  rintro e wb ⟨v4, rfl, hv, hb⟩
                  obtain ⟨A4, c4, rfl, -⟩ := hv.form
                  have HV4 := Lib.hid hv.new_lt
                  replace HV3 := Lib.hid (HV3.out.on hb)
                  replace HVP := Lib.hid (HVP.out.on hb)
                  replace HBW := Lib.hid (HBW.out.trans (hb.mono HBW.out.size))
                  clear hv hb
                  go_wp2_with fail
                  refine (row_same _ _ q _ _ _ _ _ (by omega) HV3.out HV4.out).mono ?_
                  rintro e wd ⟨rfl, kr, rfl⟩
                  have he : eqB q (natF fun i => Pa (itn Pa j i)) (natF fun i => i) = B := HEQ.out
                  rw [he]
                  have hb := below_drewN (Below.refl wb.heap.size wb) kr
                  replace HV3 := Lib.hid (show Vec _ _ _ q (natF (itn Pa (j + 1))) from HV3.out.on hb)
                  replace HVP := Lib.hid (HVP.out.on hb)
                  replace HBW := Lib.hid (HBW.out.trans (hb.mono HBW.out.size))
                  generalize wb.drewN kr = wd at hb HV3 HVP HBW ⊢
                  clear hb he HEQ HV4
                  have eq2 : ((j : Int) + 1 == (N' : Int)) = B := by rw [← eq1]; rfl
                  cases B with
                  | true =>
                    go_wp2_with fail
                    go_roundw
                    case rel => exact ⟨j + 1, by go_num, by omega, HV3.out, HVP.out, HBW.out⟩
                    case measure => simp [intOf]; omega
                  | false =>
                    go_wp2_with fail
                    go_roundw
                    case rel => exact ⟨j + 1, by go_num, by omega, HV3.out, HVP.out, HBW.out⟩
                    case measure => simp [intOf]; omega
                · have dj : decide (((j + 1 : Nat) : Int) ≤ (N' : Int)) = false := decide_eq_false (by omega)
                  go_wp2_with fail
                  go_ret
                  exact ⟨rfl, HBW.out⟩
end Go.Proofs.Ythdilpaffcidmaa
