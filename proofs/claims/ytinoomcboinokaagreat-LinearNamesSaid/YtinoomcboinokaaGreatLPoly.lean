/- matrix.dot, product, series, Poly. -/
import Derived.Test.YtinoomcboinokaaGreatLDet
import Derived.Test.YtinoomcboinokaaGreatLOwn
import Derived.Test.YtinoomcboinokaaGreatLAfterC
import Derived.Test.YtinoomcboinokaaGreatMTurn
import Derived.Test.YtinoomcboinokaaGreatMShelf
import Derived.Laws.CopyOwn
import Derived.Sort.OwnSortedInts
/- matrix.dot and its closure; combine over two lists of ints with it. -/
namespace Go.Proofs.YtinoomcboinokaaGreat
open Go Go.RowKit Num

theorem OwnsI.form {w : World} {B : Nat} {v : Value} {l : List Int} (h : OwnsI w B v l) : ∃ A c, v = .slice A l.length c := by
  rcases h.2 with ⟨rfl, h0⟩ | ⟨g, cap, cur, rfl, _⟩
  · exact ⟨none, 0, by rw [h0]⟩
  · exact ⟨_, cap, rfl⟩
theorem OwnsI.vec {w : World} {B : Nat} {S : Nat → Prop} {v : Value} {l : List Int} (h : OwnsI w B v l) (hS : ∀ g, v.ownBlock = some g → S g) : Vec w S v l.length (fun j => l.getD j 0) := by
  rcases h.2 with ⟨rfl, h0⟩ | ⟨g, cap, cur, rfl, hb, hg, hnc, hcm, hcs, htake⟩
  · rw [h0]; exact Vec.nil _ _ _
  · refine ⟨_, cap, rfl, hnc, fun _ => ⟨g, 0, rfl, hS g rfl, fun j hj => ?_⟩⟩
    rw [Nat.zero_add]
    have := World.ownsRow.cells h (g := g) rfl j _ (icells_get hj)
    rwa [Addr.add_lit, Nat.zero_add] at this
set_option maxRecDepth 100000 in
set_option maxHeartbeats 400000 in
theorem dot1_any (x y p : Int) (B : Nat) (w : World) (hp0 : 1 ≤ p) (hp1 : p ≤ 10000) (hx : 0 ≤ x ∧ x < p) (hy : 0 ≤ y ∧ y < p) (hb : Boxed w B 3 (.int .i64 p)) :
    Calls Tryz.prog 91 #[.int .i64 x, .int .i64 y, .pointer (some ⟨B, 0, none⟩)] w fun e w' => e = .returned (.int .i64 (x * y % p)) ∧ w' = w := by
  have h1 := hb.cell
  have hm := mul_in (a := x) (b := y) ⟨hx.1, show x ≤ p by omega⟩ ⟨hy.1, show y ≤ p by omega⟩ hp1 hp1
  obtain ⟨m, hmm⟩ : ∃ m, x * y = m := ⟨_, rfl⟩
  rw [hmm] at hm ⊢
  have hw : IntKind.i64.wrap (x * y) = m := by rw [hmm]; exact IntWalk.i64_in _ ⟨by omega, by omega⟩
  have hne : (p != 0) = true := by simp; omega
  have hr : m.tmod p = m % p := Int.tmod_eq_emod_of_nonneg (by omega)
  have hr1 : 0 ≤ m % p := Int.emod_nonneg _ (by omega)
  have hr2 : m % p < p := Int.emod_lt_of_pos _ (by omega)
  have hw3 : IntKind.i64.wrap (m % p) = m % p := IntWalk.i64_in _ ⟨by omega, by omega⟩
  clear hb hmm
  go_enter Tryz.func91, Tryz.ntmps91
  go_wp2
  go_ret
  exact ⟨rfl, rfl⟩

/-- The products of two rows, entry by entry. -/
def ppV (p : Int) (f g : Nat → Int) (j : Nat) : Int := f j * g j % p
theorem ppV_in {p : Int} (hp : 0 < p) (f g : Nat → Int) (n : Nat) : InP p n (ppV p f g) := fun j _ => ⟨Int.emod_nonneg _ (by omega), Int.emod_lt_of_pos _ hp⟩

set_option maxRecDepth 100000 in
set_option maxHeartbeats 400000 in
theorem combine_dot (v u : Value) (n m : Nat) (f g : Nat → Int) (p : Int) (B : Nat) (S : Nat → Prop) (w : World) (hS : ∀ b, S b → b < w.heap.size) (hB : B < w.heap.size) (hn : n ≤ 1000000) (hnm : n ≤ m)
    (hv : Vec w S v n f) (hu : Vec w S u m g) (hp0 : 1 ≤ p) (hp1 : p ≤ 10000) (hf : InP p n f) (hg : InP p n g) (hb : Boxed w B 3 (.int .i64 p)) :
    Calls Tryz.prog 59 #[v, u, .func (.func 91) #[] #[.pointer (some ⟨B, 0, none⟩)]] w (GivesV w n (ppV p f g)) := by
  have hmk := make_ints n (by omega)
  have H0 := Lib.hid (Fill.start w 3 n (iv (ppV p f g)) (.int .i64 0))
  have hfin : ∀ wr, Fill w 3 n (iv (ppV p f g)) (.int .i64 0) n wr → Vec wr (New w wr) (.slice (some ⟨w.heap.size, 0, none⟩) n n) n (ppV p f g) ∧ Below w.heap.size w wr := fun wr h =>
    ⟨Row.vec (by have := h.2.1; rw [part_all] at this; exact this) ⟨Nat.le_refl _, h.2.1.lt⟩ (Nat.le_refl _), h.2.2⟩
  have HF := Lib.hid hfin
  clear hfin
  obtain ⟨A, c, rfl, hnc, hv⟩ := hv
  obtain ⟨A2, c2, rfl, hmc, hu⟩ := hu
  have HS := Lib.hid hS
  have HP := fun x y W a b d => Lib.hid (dot1_any x y p B W hp0 hp1 a b d)
  have HCV := Lib.hid hv
  have HCU := Lib.hid hu
  have HFI := Lib.hid hf
  have HGI := Lib.hid hg
  clear hv hu hf hg hS
  go_enter Tryz.func59, Tryz.ntmps59
  go_wp2
  go_loopw [15] (fun i wr => ∃ j : Nat, i = .int .i64 j ∧ Fill w 3 n (iv (ppV p f g)) (.int .i64 0) j wr) (fun i _ => n - (intOf i).toNat)
  case atStart => exact ⟨0, rfl, H0.out⟩
  case round =>
    obtain ⟨j, rfl, hA⟩ := hrel
    have hj := hA.1
    by_cases hlt : j < n
    · obtain ⟨b, o, rfl, hb1, hcv⟩ := HCV.out (by omega)
      obtain ⟨b2, o2, rfl, hb2, hcu⟩ := HCU.out (by omega)
      have hb1' := HS.out _ hb1
      have hb2' := HS.out _ hb2
      have hx : wr.cell? ⟨b, o + j, none⟩ = some (.int .i64 (f j)) := (hA.2.2.cell (p := ⟨b, o + j, none⟩) hb1').trans (hcv j hlt)
      have hy : wr.cell? ⟨b2, o2 + j, none⟩ = some (.int .i64 (g j)) := (hA.2.2.cell (p := ⟨b2, o2 + j, none⟩) hb2').trans (hcu j (by omega))
      have hC1 := HP (f j) (g j) wr (HFI.out j hlt) (HGI.out j hlt) (boxBelow hb hA.2.2 hB)
      have hS := Lib.hid (hA.step hlt)
      have hct := hA.2.1.cell (CTab_get n (part j (iv (ppV p f g)) (.int .i64 0)) j hlt)
      have hft := hA.2.1.frozen j
      have hjm : j < m := by omega
      generalize part j (iv (ppV p f g)) (.int .i64 0) j = u0 at hct
      change Hid (Fill w 3 n (iv (ppV p f g)) (.int .i64 0) (j + 1) (wr.setCell ⟨w.heap.size, j, none⟩ (.int .i64 (f j * g j % p)))) at hS
      generalize f j * g j % p = z at hC1 hS
      generalize f j = x at hx hC1
      generalize g j = y at hy hC1
      clear hA hb hcv hcu
      go_wp2_with fail
      refine hC1.out.mono ?_
      rintro e w' ⟨rfl, rfl⟩
      go_wp2
      go_roundw
      case rel => exact ⟨j + 1, by go_num, hS.out⟩
      case measure => simp [intOf]; omega
    · have hA' : Fill w 3 n (iv (ppV p f g)) (.int .i64 0) n wr := by rw [show j = n by omega] at hA; exact hA
      have HA := Lib.hid (HF.out _ hA')
      clear hA hA' hb
      go_wp2
      go_ret
      exact ⟨_, rfl, HA.out⟩

theorem sumTo_in {p : Int} {f : Nat → Int} {n : Nat} (hp1 : p ≤ 10000) (hf : InP p n f) : ∀ k, k ≤ n → 0 ≤ sumTo f k ∧ sumTo f k ≤ k * 10000
  | 0, _ => ⟨Int.le_refl _, by simp [sumTo]⟩
  | k + 1, hk => by
    have := sumTo_in hp1 hf k (by omega)
    have h := hf k (by omega)
    simp only [sumTo]
    omega

set_option maxRecDepth 100000 in
set_option maxHeartbeats 1000000 in
theorem dot_any (v u : Value) (n m : Nat) (f g : Nat → Int) (p : Int) (w : World) (hn : n ≤ 1000) (hnm : n ≤ m) (hv : Vec w (· < w.heap.size) v n f) (hu : Vec w (· < w.heap.size) u m g) (hp0 : 1 ≤ p) (hp1 : p ≤ 10000) (hf : InP p n f) (hg : InP p n g) :
    Calls Tryz.prog 76 #[v, u, .int .i64 p] w fun e w' => e = .returned (.int .i64 (sumTo (fun j => f j * g j) n % p)) ∧ Below w.heap.size w w' := by
  have hfin : sumTo (fun j => f j * g j) n % p = sumTo (ppV p f g) n % p := sumTo_mod n fun i _ => by
    show _ = f i * g i % p % p
    rw [Int.emod_emod_of_dvd _ (Int.dvd_refl p)]
  rw [hfin]
  have HI := Lib.hid (fun k hk => sumTo_in hp1 (ppV_in (by omega) f g n) k hk)
  have hbox := row_new (W := w) rfl 3 #[.int .i64 p]
  have hB1 : Below w.heap.size w (w.alloc (.cells #[.int .i64 p] 3)) := (Below.refl _ _).alloc (Nat.le_refl _) _
  have HC := Lib.hid (combine_dot v u n m f g p w.heap.size (· < (w.alloc (.cells #[.int .i64 p] 3)).heap.size) (w.alloc (.cells #[.int .i64 p] 3)) (fun b h => h) hbox.lt (by omega) hnm (hv.on hB1) (hu.on hB1) hp0 hp1 hf hg hbox)
  obtain ⟨A, c, rfl, -⟩ := hv.form
  obtain ⟨A2, c2, rfl, -⟩ := hu.form
  have HB1 := Lib.hid hB1
  have HBX := Lib.hid hbox
  have hne : (p != 0) = true := by simp; omega
  have hne2 : ¬ p = 0 := by omega
  clear hv hu hf hg hbox hB1 hfin
  go_enter Tryz.func76, Tryz.ntmps76
  go_wp2_with fail
  refine HC.out.mono ?_
  rintro e w2 ⟨r, rfl, hV, hb⟩
  obtain ⟨A3, c3, rfl, -⟩ := hV.form
  have HV := Lib.hid hV
  have HB := Lib.hid (HB1.out.trans (hb.mono HB1.out.size))
  have hpc : w2.cell? ⟨w.heap.size, 0, none⟩ = some (.int .i64 p) := (HBX.out.below hb HBX.out.lt).cell rfl
  clear hV hb HC HB1 HBX
  go_wp2_with fail
  go_loopw [7, 15] (fun s i wr => ∃ j : Nat, s = .int .i64 (sumTo (ppV p f g) j) ∧ i = .int .i64 j ∧ j ≤ n ∧ wr = w2) (fun _ i _ => n - (intOf i).toNat)
  case atStart => exact ⟨0, rfl, rfl, Nat.zero_le _, rfl⟩
  case round =>
    obtain ⟨j, rfl, rfl, hj, rfl⟩ := hrel
    have hs := HI.out j hj
    by_cases hlt : j < n
    · obtain ⟨b, o, cc, e, _, _, hcv⟩ := HV.out.at_ (by omega)
      cases e
      have hx := hcv j hlt
      have hi1 := HI.out (j + 1) (by omega)
      have hi2 : sumTo (ppV p f g) (j + 1) = sumTo (ppV p f g) j + ppV p f g j := rfl
      have hw : IntKind.i64.wrap (sumTo (ppV p f g) j + ppV p f g j) = sumTo (ppV p f g) (j + 1) := by rw [hi2] at hi1 ⊢; exact IntWalk.i64_in _ ⟨by omega, by omega⟩
      clear hi2 hcv
      obtain ⟨s1, hs1⟩ : ∃ s1, sumTo (ppV p f g) (j + 1) = s1 := ⟨_, rfl⟩
      rw [hs1] at hw hi1
      have HS1 := Lib.hid hs1
      clear hs1
      generalize sumTo (ppV p f g) j = s0 at hw hs
      generalize ppV p f g j = x at hx hw
      go_wp2_with fail
      go_roundw
      case rel => exact ⟨j + 1, by rw [HS1.out], by go_num, by omega, by first | rfl | trivial⟩
      case measure => simp [intOf]; omega
    · have e : j = n := by omega
      subst e
      have hr : (sumTo (ppV p f g) j).tmod p = sumTo (ppV p f g) j % p := Int.tmod_eq_emod_of_nonneg hs.1
      have hr1 : 0 ≤ sumTo (ppV p f g) j % p := Int.emod_nonneg _ (by omega)
      have hr2 : sumTo (ppV p f g) j % p < p := Int.emod_lt_of_pos _ (by omega)
      have hw3 : IntKind.i64.wrap (sumTo (ppV p f g) j % p) = sumTo (ppV p f g) j % p := IntWalk.i64_in _ ⟨by omega, by omega⟩
      obtain ⟨z, hz⟩ : ∃ z, sumTo (ppV p f g) j % p = z := ⟨_, rfl⟩
      rw [hz] at hr hr1 hr2 hw3
      have HZ := Lib.hid hz
      clear hz
      generalize hs0 : sumTo (ppV p f g) j = s0 at hr hs
      clear hs0
      go_wp2_with fail
      go_ret
      exact ⟨by rw [HZ.out]; rfl, HB.out⟩
end Go.Proofs.YtinoomcboinokaaGreat

/- matrix.product. -/
namespace Go.Proofs.YtinoomcboinokaaGreat
open Go Go.RowKit Num

/-- What lies in the sum behind i rounds. -/
def prV (p : Int) (g f : Nat → Int) : Nat → Nat → Int
  | 0 => fun _ => 0
  | i + 1 => fun j => if i ≤ j then (prV p g f i j + g i * f (j - i)) % p else prV p g f i j
theorem prV_in {p : Int} (hp : 0 < p) (g f : Nat → Int) (n : Nat) : ∀ i, InP p n (prV p g f i)
  | 0, j, _ => ⟨Int.le_refl _, hp⟩
  | i + 1, j, hj => by
    show 0 ≤ (if i ≤ j then _ else _) ∧ (if i ≤ j then _ else _) < p
    split
    · exact ⟨Int.emod_nonneg _ (by omega), Int.emod_lt_of_pos _ hp⟩
    · exact prV_in hp g f n i j hj
/-- What the copy leaves. -/
theorem copy_tab (n i : Nat) (G H c : Nat → Int) (hi : i ≤ n) (h : ∀ j, j < n → H j = if j < i then G j else c (j - i)) :
    (splice (CTab n (iv G)).toList i ((List.range (n - i)).map (fun j => Value.int .i64 (c j)))).toArray = CTab n (iv H) := by
  unfold splice
  rw [List.length_map, List.length_range, show i + (n - i) = n by omega]
  have hs : (CTab n (iv G)).toList.length = n := by simp [CTab]
  rw [List.drop_of_length_le (by omega), List.append_nil]
  apply Array.ext
  · simp [CTab]; omega
  · intro j h1 h2
    have hj : j < n := by simpa [CTab] using h2
    have e2 : (CTab n (iv H))[j] = .int .i64 (H j) := by simp [CTab, iv]
    rw [e2, h j hj, List.getElem_toArray]
    by_cases hji : j < i
    · rw [List.getElem_append_left (by simp [CTab]; omega), if_pos hji]
      simp [CTab, iv]
    · rw [List.getElem_append_right (by simp [CTab]; omega), if_neg hji]
      simp [CTab]
      congr 2
      omega

set_option maxRecDepth 100000 in
set_option maxHeartbeats 2000000 in
theorem mprod_any (v u : Value) (n m : Nat) (g f : Nat → Int) (p : Int) (w : World) (hn0 : 1 ≤ n) (hnm : n ≤ m) (hm : m ≤ 1000) (hv : Vec w (· < w.heap.size) v n g) (hu : Vec w (· < w.heap.size) u m f) (hp0 : 1 ≤ p) (hp1 : p ≤ 10000) (hg : InP p n g) (hf : InP p m f) :
    Calls Tryz.prog 48 #[v, u, .int .i64 p] w fun e w' => e = .returned (.slice (some ⟨w.heap.size, 0, none⟩) m m) ∧ Row w' w.heap.size 3 (CTab m (iv (prV p g f n))) ∧ Below w.heap.size w w' := by
  have hmk := make_ints m (by omega)
  obtain ⟨bv, ov, cv, rfl, hcv, hbv, hvc⟩ := hv.at_ (by omega)
  obtain ⟨bu, ou, cu, rfl, hcu, hbu, huc⟩ := hu.at_ (by omega)
  have HU := Lib.hid hu
  have HVC := Lib.hid hvc
  have HGI := Lib.hid hg
  have HFI := Lib.hid hf
  have H0 := Lib.hid (show Row (w.alloc (.cells (CTab m fun _ => .int .i64 0) 3)) w.heap.size 3 (CTab m (iv (prV p g f 0))) from row_new rfl _ _)
  have HB0 := Lib.hid ((Below.refl w.heap.size w).alloc (Nat.le_refl _) (.cells (CTab m fun _ => .int .i64 0) 3))
  have hs1 : (Tryz.prog.info? 3).map (·.size) = some 1 := by kernel_rfl
  clear hv hu hvc huc hg hf
  go_enter Tryz.func48, Tryz.ntmps48
  go_wp2
  go_loopw [15] (fun i wr => ∃ k : Nat, i = .int .i64 k ∧ k ≤ n ∧ Row wr w.heap.size 3 (CTab m (iv (prV p g f k))) ∧ Below w.heap.size w wr) (fun i _ => n - (intOf i).toNat)
  case atStart => exact ⟨0, rfl, Nat.zero_le _, H0.out, HB0.out⟩
  case round =>
    obtain ⟨i, rfl, hi, hR, hB⟩ := hrel
    by_cases hlt : i < n
    · have hx : wr.cell? ⟨bv, ov + i, none⟩ = some (.int .i64 (g i)) := (hB.cell (p := ⟨bv, ov + i, none⟩) hbv).trans (HVC.out i hlt)
      have hgi := HGI.out i hlt
      have HR := Lib.hid hR
      have HB := Lib.hid hB
      have hsub : IntKind.i64.wrap ((m : Int) - (i : Int)) = ((m - i : Nat) : Int) := by
        rw [show (m : Int) - (i : Int) = ((m - i : Nat) : Int) by omega]
        exact IntWalk.i64_in _ ⟨by omega, by omega⟩
      obtain ⟨A1, hr1, he1⟩ := run_cutL (some ⟨w.heap.size, 0, none⟩) m m i (by omega) (Nat.le_refl _)
      have he1 := he1 (by omega)
      rw [addr_map _ _ w.heap.size 0 rfl, Nat.zero_add] at he1
      subst he1
      obtain ⟨A2, hr2, hV2⟩ := cut_pre HU.out (k := m - i) (by omega)
      have HV2 := Lib.hid hV2
      have HX := Lib.hid (fun W => plus_any (g i) p W)
      have hlen : m - i ≤ m := by omega
      generalize hgx : g i = x at hx hgi HX
      have HGX := Lib.hid hgx
      clear hR hB hV2 hgx
      go_wp2_with fail
      refine wp_region_held_drew (S := (fun _ => True)) (by kernel_rfl) trivial (fun hHeld => ?_)
      have HR0 := Lib.hid (show Row wr.drew w.heap.size 3 (CTab m (iv (prV p g f i))) from HR.out)
      have HB0' := Lib.hid (show Below w.heap.size w wr.drew from below_drew HB.out)
      clear HR HB H0 HB0 hx
      generalize wr.drew = W0 at HR0 HB0' ⊢
      refine takeH (i := 0) (v := (.slice (some ⟨w.heap.size, 0, none⟩) m m)) rfl rfl (by kernel_rfl) (by kernel_rfl) (by kernel_rfl) (fun _ _ _ h => h) (by rfl) (fun W hW => by (skip); go_simp) (by assumption) ?_
      simp only [List.setIfInBounds_toArray, List.set_cons_zero, List.set_cons_succ]
      refine takeH (i := 1) (v := (.int .i64 i)) rfl rfl (by kernel_rfl) (by kernel_rfl) (by kernel_rfl) (fun _ _ _ h => h) (by rfl) (fun W hW => by (skip); go_simp) (by assumption) ?_
      simp only [List.setIfInBounds_toArray, List.set_cons_zero, List.set_cons_succ]
      refine takeH (i := 2) (v := (.slice (some ⟨w.heap.size, i, none⟩) (m - i) (m - i))) rfl rfl (by kernel_rfl) (by kernel_rfl) (by kernel_rfl) (fun _ _ _ h => h) (by rfl) (fun W hW => by (skip); go_simp) (by assumption) ?_
      simp only [List.setIfInBounds_toArray, List.set_cons_zero, List.set_cons_succ]
      refine takeH (i := 3) (v := (.slice (some ⟨w.heap.size, 0, none⟩) m m)) rfl rfl (by kernel_rfl) (by kernel_rfl) (by kernel_rfl) (fun _ _ _ h => h) (by rfl) (fun W hW => by (skip); go_simp) (by assumption) ?_
      simp only [List.setIfInBounds_toArray, List.set_cons_zero, List.set_cons_succ]
      refine takeH (i := 4) (v := (.int .i64 i)) rfl rfl (by kernel_rfl) (by kernel_rfl) (by kernel_rfl) (fun _ _ _ h => h) (by rfl) (fun W hW => by (skip); go_simp) (by assumption) ?_
      simp only [List.setIfInBounds_toArray, List.set_cons_zero, List.set_cons_succ]
      refine takeH (i := 5) (v := (.slice (some ⟨w.heap.size, i, none⟩) (m - i) (m - i))) rfl rfl (by kernel_rfl) (by kernel_rfl) (by kernel_rfl) (fun _ _ _ h => h) (by rfl) (fun W hW => by (skip); go_simp) (by assumption) ?_
      simp only [List.setIfInBounds_toArray, List.set_cons_zero, List.set_cons_succ]
      refine takeH (i := 6) (v := (.slice (some ⟨bu, ou, none⟩) m cu)) rfl rfl (by kernel_rfl) (by kernel_rfl) (by kernel_rfl) (fun _ _ _ h => h) (by rfl) (fun W hW => by (skip); go_simp) (by assumption) ?_
      simp only [List.setIfInBounds_toArray, List.set_cons_zero, List.set_cons_succ]
      refine takeH (i := 7) (v := (.slice (some ⟨bu, ou, none⟩) m cu)) rfl rfl (by kernel_rfl) (by kernel_rfl) (by kernel_rfl) (fun _ _ _ h => h) (by rfl) (fun W hW => by (skip); go_simp) (by assumption) ?_
      simp only [List.setIfInBounds_toArray, List.set_cons_zero, List.set_cons_succ]
      refine takeH (i := 8) (v := (.int .i64 m)) rfl rfl (by kernel_rfl) (by kernel_rfl) (by kernel_rfl) (fun _ _ _ h => h) (by rfl) (fun W hW => by (skip); go_simp) (by assumption) ?_
      simp only [List.setIfInBounds_toArray, List.set_cons_zero, List.set_cons_succ]
      refine takeH (i := 9) (v := (.int .i64 i)) rfl rfl (by kernel_rfl) (by kernel_rfl) (by kernel_rfl) (fun _ _ _ h => h) (by rfl) (fun W hW => by (skip); go_simp) (by assumption) ?_
      simp only [List.setIfInBounds_toArray, List.set_cons_zero, List.set_cons_succ]
      refine takeH (i := 10) (v := (.int .i64 (m - i : Nat))) rfl rfl (by kernel_rfl) (by kernel_rfl) (by kernel_rfl) (fun _ _ _ h => h) (by rfl) (fun W hW => by (skip); go_simp) (by assumption) ?_
      simp only [List.setIfInBounds_toArray, List.set_cons_zero, List.set_cons_succ]
      refine takeH (i := 11) (v := (.slice A2 (m - i) cu)) rfl rfl (by kernel_rfl) (by kernel_rfl) (by kernel_rfl) (fun _ _ _ h => h) (by rfl) (fun W hW => by (skip); go_simp) (by assumption) ?_
      simp only [List.setIfInBounds_toArray, List.set_cons_zero, List.set_cons_succ]
      refine takeH (i := 12) (v := (.int .i64 x)) rfl rfl (by kernel_rfl) (by kernel_rfl) (by kernel_rfl) (fun _ _ _ h => h) (by rfl) (fun W hW => by (skip); go_simp) (by assumption) ?_
      simp only [List.setIfInBounds_toArray, List.set_cons_zero, List.set_cons_succ]
      refine takeH (i := 13) (v := (.int .i64 p)) rfl rfl (by kernel_rfl) (by kernel_rfl) (by kernel_rfl) (fun _ _ _ h => h) (by rfl) (fun W hW => by (skip); go_simp) (by assumption) ?_
      simp only [List.setIfInBounds_toArray, List.set_cons_zero, List.set_cons_succ]
      refine wpAnyH_ready (rs := [14]) (by kernel_rfl) (by simp) ?_
      refine (AllReadyH.cons rfl (fun K hK => ?_) AllReadyH.nil)
      · go_simp
        go_at_call 60
        refine (HX.out _).mono ?_
        rintro e W1 ⟨rfl, rfl⟩
        refine hK.out _ _ trivial (fun hHeld => ?_)
        clear hK K HX
        try simp only [Act.put, List.setIfInBounds_toArray, List.set_cons_zero, List.set_cons_succ]
        have HR1' := (HR0.out.alloc (.cells #[.int .i64 x] 3)).alloc (.cells #[.int .i64 p] 3)
        have HB1' := (HB0'.out.alloc HB0'.out.size (.cells #[.int .i64 x] 3)).alloc (by have := HB0'.out.size; simp; omega) (.cells #[.int .i64 p] 3)
        have HX1' := (row_new (W := W0) rfl 3 #[.int .i64 x]).alloc (.cells #[.int .i64 p] 3)
        have HP1' := row_new (W := W0.alloc (.cells #[.int .i64 x] 3)) (g := W0.heap.size + 1) (by simp) 3 #[.int .i64 p]
        generalize (W0.alloc (.cells #[.int .i64 x] 3)).alloc (.cells #[.int .i64 p] 3) = W1 at HR1' HB1' HX1' HP1' ⊢
        have hvs : Vec W1 (· < W1.heap.size) (.slice (some ⟨w.heap.size, i, none⟩) (m - i) (m - i)) (m - i) (fun j => prV p g f i (i + j)) :=
          ⟨_, m - i, rfl, Nat.le_refl _, fun _ => ⟨w.heap.size, i, rfl, HR1'.lt, fun j hj => HR1'.cell (CTab_get m (iv (prV p g f i)) (i + j) (by omega))⟩⟩
        have HC := Lib.hid (combine_plus (.slice (some ⟨w.heap.size, i, none⟩) (m - i) (m - i)) (.slice A2 (m - i) cu) (m - i) (m - i) (fun j => prV p g f i (i + j)) f x p W0.heap.size (W0.heap.size + 1) (· < W1.heap.size) W1 (fun b h => h) HX1'.lt HP1'.lt (by omega) (Nat.le_refl _)
          hvs (HV2.out.on HB1') hp1 (fun j hj => prV_in (by omega) g f m i (i + j) (by omega)) (fun j hj => HFI.out j (by omega)) ⟨hgi.1, by omega⟩ HX1' HP1')
        have HR1 := Lib.hid HR1'
        have HB1 := Lib.hid HB1'
        clear HR1' HB1' HX1' HP1' hvs HR0 HB0' HV2
        refine wpAnyH_ready (rs := [15]) (by kernel_rfl) (by simp) ?_
        refine (AllReadyH.cons rfl (fun K hK => ?_) AllReadyH.nil)
        go_simp
        go_at_call 59
        refine HC.out.mono ?_
        rintro e W2 ⟨r, rfl, hV, hb⟩
        obtain ⟨b3, o3, c3, rfl, hc3, hb3, hcc⟩ := hV.at_ (by omega)
        have HR2 := Lib.hid (HR1.out.below hb HR1.out.lt)
        have HB2 := Lib.hid (HB1.out.trans (hb.mono HB1.out.size))
        have HCC := Lib.hid hcc
        refine hK.out _ _ trivial (fun hHeld => ?_)
        clear hK K HC HR1 HB1 hV hb hcc
        try simp only [Act.put, List.setIfInBounds_toArray, List.set_cons_zero, List.set_cons_succ]
        refine wpAnyH_ready (rs := [16]) (by kernel_rfl) (by simp) ?_
        refine (AllReadyH.cons rfl (fun K hK => ?_) AllReadyH.nil)
        refine step_copy_splice rfl _ _ _ _ rfl 3 Tryz.underlying22 hs1 (some ⟨w.heap.size, i, none⟩) (some ⟨b3, o3, none⟩) (m - i) (m - i) (m - i) c3 rfl rfl w.heap.size i (CTab m (iv (prV p g f i))).toList 3 (by rw [Array.toArray_toList]; exact HR2.out) ((List.range (m - i)).map (fun j => Value.int .i64 (axpy x p (fun j => prV p g f i (i + j)) f j))) (by simp) (fun _ => ⟨rfl, _, rfl, fun j u hj => ?_⟩) (by simp [CTab]; omega) (by simp [Value.oneCell']) w.heap.size w HB2.out (Nat.le_refl _) ?_
        · by_cases hjm : j < m - i
          · simp [hjm] at hj
            subst hj
            rw [Addr.add_lit]
            exact HCC.out j hjm
          · simp [hjm] at hj
        · intro W3 hrow hbw
          rw [copy_tab m i (prV p g f i) (prV p g f (i + 1)) (axpy x p (fun j => prV p g f i (i + j)) f) (by omega) (fun j hj => by
            show (if i ≤ j then (prV p g f i j + g i * f (j - i)) % p else prV p g f i j) = _
            by_cases e : j < i
            · rw [if_neg (by omega), if_pos e]
            · rw [if_pos (by omega), if_neg e]
              show _ = (prV p g f i (i + (j - i)) + x * f (j - i)) % p
              rw [show i + (j - i) = j by omega, HGX.out])] at hrow
          have HR3 := Lib.hid (show Row W3 w.heap.size 3 (CTab m (iv (prV p g f (i + 1)))) from hrow)
          have HB3 := Lib.hid hbw
          refine hK.out _ _ trivial (fun hHeld => ?_)
          clear hK K hrow hbw HR2 HB2 HCC
          try simp only [Act.put, List.setIfInBounds_toArray]
          refine wpAnyH_done (by kernel_rfl) ?_ _
          go_wp2_with fail
          go_roundw
          case rel => exact ⟨i + 1, by go_num, by omega, HR3.out, HB3.out⟩
          case measure => simp [intOf]; omega
    · have e : i = n := by omega
      subst e
      have HE := Lib.hid hR
      have HB := Lib.hid hB
      clear hR hB H0 HB0
      go_wp2
      go_ret
      exact ⟨rfl, HE.out, HB.out⟩
end Go.Proofs.YtinoomcboinokaaGreat

/- matrix.series. -/
namespace Go.Proofs.YtinoomcboinokaaGreat
open Go Go.RowKit Num

theorem sub_mod {p : Int} (x : Int) : (p - x % p) % p = (-x) % p := by
  have h1 : Cg p (p - x % p) (-x) := by
    have h2 := (Cg.self p 1).add ((Cg.mod p x).neg)
    rw [Int.mul_one, Int.zero_add] at h2
    exact Cg.trans (.of (by omega)) h2
  exact h1
theorem dotTo_sum (x : Nat → Int) (g : Nat → Nat → Int) (j : Nat) : ∀ k, dotTo x g j k = sumTo (fun a => x a * g a j) k
  | 0 => rfl
  | k + 1 => by rw [dotTo, dotTo_sum x g j k]; rfl
theorem rowP_mod {p : Int} (f : Nat → Nat → Int) (k i j : Nat) : dotTo (fun a => rowP f k i a % p) f j k % p = rowP f k (i + 1) j % p := by
  rw [dotTo_sum]
  exact sumTo_mod k fun a _ => by rw [Int.mul_emod, Int.emod_emod_of_dvd _ (Int.dvd_refl p), ← Int.mul_emod]
theorem sK_mod {p : Int} (f : Nat → Nat → Int) (k i : Nat) : (p - sumTo (fun a => rowP f k i a % p * f a k) k % p) % p = sK f k (i + 2) % p := by
  rw [sub_mod]
  have h : Cg p (sumTo (fun a => rowP f k i a % p * f a k) k) (sumTo (fun a => rowP f k i a * f a k) k) := sumTo_mod k fun a _ => by rw [Int.mul_emod, Int.emod_emod_of_dvd _ (Int.dvd_refl p), ← Int.mul_emod]
  exact h.neg
/-- The first coefficients of the factor of row k. -/
def serL (p : Int) (f : Nat → Nat → Int) (k i : Nat) : List Int := (List.range (i + 2)).map fun j => sK f k j % p
theorem serL_len (p : Int) (f : Nat → Nat → Int) (k i : Nat) : (serL p f k i).length = i + 2 := by simp [serL]
theorem serL_succ (p : Int) (f : Nat → Nat → Int) (k i : Nat) : serL p f k (i + 1) = serL p f k i ++ [sK f k (i + 2) % p] := by
  unfold serL
  rw [show i + 1 + 2 = (i + 2) + 1 by omega, List.range_succ, List.map_append]
  rfl
theorem serL_get (p : Int) (f : Nat → Nat → Int) (k i j : Nat) (hj : j < i + 2) : (serL p f k i).getD j 0 = sK f k j % p := by
  simp [serL, List.getD_eq_getElem?_getD, hj]

/-- While the leading rows are gathered. -/
structure SerI (w : World) (p : Int) (m k : Nat) (f : Nat → Nat → Int) (x : Value) (i : Nat) (wr : World) : Prop where
  le : i ≤ k
  b : Below w.heap.size w wr
  sz : w.heap.size + 1 + 1 ≤ wr.heap.size
  box : Row wr w.heap.size 31 #[.int .i64 p, x]
  rows : ∃ (v : Value) (rs : List Value), Row wr (w.heap.size + 1) 31 #[.int .i64 p, v] ∧ rs.length = i ∧ wr.ownsRow (w.heap.size + 1 + 1) 22 1 v i rs ∧ ∀ j, j < i → ∃ r, rs[j]? = some r ∧ Vec wr (· < w.heap.size) r k (f j)
theorem ser_start (w : World) (p : Int) (m k : Nat) (f : Nat → Nat → Int) (x : Value) : SerI w p m k f x 0 ((w.alloc (.cells #[.int .i64 p, x] 31)).alloc (.cells #[.int .i64 p, .slice none 0 0] 31)) :=
  ⟨Nat.zero_le _, ((Below.refl w.heap.size w).alloc (Nat.le_refl _) _).alloc (by simp) _, by simp, (row_new rfl _ _).alloc _, .slice none 0 0, [], row_new (by simp) _ _, rfl, World.ownsRow_nil _ _ _ _, fun j hj => absurd hj (by omega)⟩
/-- A row more: the array of one, the append, the store. -/
theorem ser_step {w wq w3 : World} {p : Int} {m k i : Nat} {f : Nat → Nat → Int} {x v v1 row : Value} {rs : List Value} (h : SerI w p m k f x i wq) (hi : i < k) (hr : Row wq (w.heap.size + 1) 31 #[.int .i64 p, v]) (hl : rs.length = i)
    (hO : wq.ownsRow (w.heap.size + 1 + 1) 22 1 v i rs) (hV : ∀ j, j < i → ∃ r, rs[j]? = some r ∧ Vec wq (· < w.heap.size) r k (f j)) (hrow : Vec wq (· < w.heap.size) row k (f i))
    (hown : w3.ownsRow (w.heap.size + 1 + 1) 22 1 v1 (i + 1) (rs ++ [row])) (hg : (wq.alloc (.cells #[row] 22)).grownBy w3 v.ownBlock) :
    SerI w p m k f x (i + 1) (w3.setCell ⟨w.heap.size + 1, 1, none⟩ v1) := by
  have hsz := h.sz
  have hz3 : (wq.alloc (.cells #[row] 22)).heap.size = wq.heap.size + 1 := by simp
  have hsz3 := hg.size
  have hOlt := hO.lt
  have hB : Below w.heap.size wq w3 := ((Below.refl w.heap.size wq).alloc (by omega) _).grown hg (by simp; omega) (fun q hq => by have := hOlt q hq; omega)
  have hBs : Below w.heap.size wq (w3.setCell ⟨w.heap.size + 1, 1, none⟩ v1) := hB.setCell (p := ⟨w.heap.size + 1, 1, none⟩) (by show w.heap.size ≤ w.heap.size + 1; omega) _
  have hvR : v.ownBlock ≠ some (w.heap.size + 1) := fun e => by have := hOlt _ e; omega
  have hvR0 : v.ownBlock ≠ some w.heap.size := fun e => by have := hOlt _ e; omega
  refine ⟨by omega, h.b.trans hBs, by rw [size_set]; omega, (((h.box.alloc (.cells #[row] 22)).kept hg (fun e => hvR0 e.symm)).far (p := ⟨w.heap.size + 1, 1, none⟩) (by show w.heap.size ≠ w.heap.size + 1; omega) v1), v1, rs ++ [row], ((hr.alloc (.cells #[row] 22)).kept hg (fun e => hvR e.symm)).set 1 v1, by simp [hl], ownsRow_setCell_below hown (by show w.heap.size + 1 < _; omega) v1, fun j hj => ?_⟩
  by_cases e : j = i
  · subst e
    exact ⟨row, by rw [← hl]; simp, hrow.below (fun _ h => h) hBs⟩
  · obtain ⟨r, h1, h2⟩ := hV j (by omega)
    exact ⟨r, by rw [List.getElem?_append_left (by omega)]; exact h1, h2.below (fun _ h => h) hBs⟩
/-- The rows that were gathered, as a matrix. -/
theorem ser_grid {w wr : World} {p : Int} {m k : Nat} {f : Nat → Nat → Int} {x v : Value} {rs : List Value} (h : SerI w p m k f x k wr) (_hl : rs.length = k)
    (hO : wr.ownsRow (w.heap.size + 1 + 1) 22 1 v k rs) (hV : ∀ j, j < k → ∃ r, rs[j]? = some r ∧ Vec wr (· < w.heap.size) r k (f j)) : Grid wr (· < wr.heap.size) v k (fun _ => k) f := by
  have hsz := h.sz
  rcases hO.2 with ⟨rfl, h0⟩ | ⟨g, cap, cur, rfl, hb, hg, hnc, _⟩
  · rw [h0]
    exact ⟨none, 0, rfl, Nat.le_refl _, fun hn => absurd hn (by omega)⟩
  · have hlt := hO.lt g rfl
    refine ⟨_, cap, rfl, hnc, fun _ => ⟨g, 0, rfl, by omega, fun i hi => ?_⟩⟩
    obtain ⟨r, h1, h2⟩ := hV i hi
    refine ⟨r, ?_, h2.more fun b hb => by show b < wr.heap.size; omega⟩
    have := World.ownsRow.cells hO (g := g) rfl i r h1
    rwa [Addr.add_lit] at this

/-- While the coefficients are appended. -/
structure SerJ (w5 : World) (p : Int) (k : Nat) (f : Nat → Nat → Int) (i : Nat) (l r : Value) (wr : World) : Prop where
  le : i ≤ k
  b : Below w5.heap.size w5 wr
  own : OwnsI wr w5.heap.size l (serL p f k i)
  rv : Vec wr (fun b => b < wr.heap.size ∧ l.ownBlock ≠ some b) r k (fun j => rowP f k i j % p)
/-- One more: the array of one, the append; then the row times the matrix. -/
theorem serj_step {w5 wr w1 w3 w4 : World} {p : Int} {k i : Nat} {f : Nat → Nat → Int} {l r v1 r1 : Value} {y : Int} (h : SerJ w5 p k f i l r wr) (hi : i < k) (h1 : Below wr.heap.size wr w1) (hO : OwnsI w1 w5.heap.size l (serL p f k i)) (hy : y = sK f k (i + 2) % p)
    (hown : w3.ownsRow w5.heap.size 3 1 v1 (i + 2 + 1) (icells (serL p f k i) ++ [.int .i64 y])) (hg : (w1.alloc (.cells #[.int .i64 y] 3)).grownBy w3 l.ownBlock)
    (h4 : Below w3.heap.size w3 w4) (hr : Vec w4 (New w3 w4) r1 k (fun j => rowP f k (i + 1) j % p)) : SerJ w5 p k f (i + 1) v1 r1 w4 := by
  have hsz := h.b.size
  have hs1 := h1.size
  have hOlt := hO.lt
  have hB3 : Below w5.heap.size w1 w3 := ((Below.refl w5.heap.size w1).alloc (by omega) _).grown hg (by simp; omega) (fun q hq => (hOlt q hq).1)
  have hown' : OwnsI w3 w5.heap.size v1 (serL p f k (i + 1)) := by
    unfold OwnsI
    rw [serL_succ, icells_append, List.length_append, serL_len, hy.symm]
    exact hown
  have hlt3 := hown'.lt
  refine ⟨by omega, ((h.b.trans (h1.mono hsz)).trans hB3).trans (h4.mono (by have := hB3.size; omega)), ?_, hr.more fun b hb => ⟨hb.2, fun e => by have := hlt3 b e; have := hb.1; omega⟩⟩
  have hbt := But.of (t := w3.heap.size) h4 (Nat.le_refl _)
  exact hbt.owns hown' fun g hg => ⟨(hlt3 g hg).2, by have := (hlt3 g hg).2; omega⟩
theorem OwnsI.below {w w' : World} {B : Nat} {v : Value} {l : List Int} (h : OwnsI w B v l) (hb : Below w.heap.size w w') : OwnsI w' B v l :=
  (But.of (t := w.heap.size) hb (Nat.le_refl _)).owns h fun g hg => ⟨(h.lt g hg).2, by have := (h.lt g hg).2; omega⟩
end Go.Proofs.YtinoomcboinokaaGreat

/- matrix.series: the walk. -/
namespace Go.Proofs.YtinoomcboinokaaGreat
open Go Go.RowKit Num

theorem SerI.drew {w wr : World} {p : Int} {m k i : Nat} {f : Nat → Nat → Int} {x : Value} (h : SerI w p m k f x i wr) : SerI w p m k f x i wr.drew := ⟨h.le, below_drew h.b, h.sz, h.box, h.rows⟩
theorem SerJ.drew {w5 wr : World} {p : Int} {k i : Nat} {f : Nat → Nat → Int} {l r : Value} (h : SerJ w5 p k f i l r wr) : SerJ w5 p k f i l r wr.drew := ⟨h.le, below_drew h.b, h.own, h.rv⟩

set_option maxRecDepth 100000 in
set_option maxHeartbeats 4000000 in
theorem series_any (ra : Value) (m k : Nat) (f : Nat → Nat → Int) (p : Int) (w : World) (hm : m ≤ 64) (hk : k < m) (hp2 : 2 ≤ p) (hp1 : p ≤ 10000) (ha : Grid w (· < w.heap.size) ra m (fun _ => m) f) (hf : InG p m m f) :
    Calls Tryz.prog 49 #[.agg #[.int .i64 p, ra], .int .i64 k] w (GivesV w (k + 2) (fun j => sK f k j % p)) := by
  obtain ⟨i0, hi0, hz0, hz1, hz2⟩ := info_parts info3m
  obtain ⟨j0, hj0, hy0, hy1, hy2⟩ := info_parts info27m
  obtain ⟨A, c, rfl, hcm⟩ := ha.form
  obtain ⟨A0, hcut, hG0⟩ := cut_preG ha (k := k) (by omega)
  have HA := Lib.hid ha
  have HG0 := Lib.hid hG0
  have HF := Lib.hid hf
  have HS := Lib.hid (ser_start w p m k f (.slice A m c))
  clear ha hG0 hf
  go_enter Tryz.func49, Tryz.ntmps49
  go_wp2
  clear hcut
  go_loopw [20] (fun i wr => ∃ q : Nat, i = .int .i64 q ∧ SerI w p m k f (.slice A m c) q wr) (fun i _ => k - (intOf i).toNat)
  case atStart => exact ⟨0, rfl, HS.out⟩
  case round =>
    obtain ⟨i, rfl, hI⟩ := hrel
    have hle := hI.le
    by_cases hlt : i < k
    · have hd : decide ((i : Int) < (k : Int)) = true := decide_eq_true (by omega)
      obtain ⟨b0, o0, c0, R0, C0, e0, -, hb0, hc0⟩ := HG0.out.at_ (by omega)
      cases e0
      obtain ⟨hh, hv⟩ := hc0 i hlt
      have hx : wr.cell? ⟨b0, o0 + i, none⟩ = some (.slice (R0 i) m (C0 i)) := (hI.b.cell (p := ⟨b0, o0 + i, none⟩) hb0).trans hh
      obtain ⟨A3, hr3, hV3⟩ := cut_pre hv (k := k) (by omega)
      obtain ⟨v, rs, hr, hl, hO, hV⟩ := hI.drew.rows
      have HI := Lib.hid hI.drew
      have HR := Lib.hid hr
      have HL := Lib.hid hl
      have HO := Lib.hid hO
      have HV := Lib.hid hV
      have HV3 := Lib.hid (hV3.below (fun _ h => h) hI.drew.b)
      clear hI hr hl hO hV hc0 hh hv hV3 HS
      go_wp2_with fail
      clear hx hd
      refine wp_region_held_drew (S := (fun _ => True)) (by kernel_rfl) trivial (fun hHeld => ?_)
      generalize wr.drew = W0 at HI HR HO HV HV3 ⊢
      refine takeH (i := 0) (v := (.pointer (some ⟨w.heap.size + 1, 1, none⟩))) rfl rfl (by kernel_rfl) (by kernel_rfl) (by kernel_rfl) (fun _ _ _ h => h) (by rfl) (fun W hW => by (skip); go_simp) (by assumption) ?_
      simp only [List.setIfInBounds_toArray, List.set_cons_zero, List.set_cons_succ]
      refine takeH (i := 2) (v := (.slice (R0 i) m (C0 i))) rfl rfl (by kernel_rfl) (by kernel_rfl) (by kernel_rfl) (fun _ _ _ h => h) (by rfl) (fun W hW => by (skip); go_simp) (by assumption) ?_
      simp only [List.setIfInBounds_toArray, List.set_cons_zero, List.set_cons_succ]
      refine takeH (i := 3) (v := (.int .i64 k)) rfl rfl (by kernel_rfl) (by kernel_rfl) (by kernel_rfl) (fun _ _ _ h => h) (by rfl) (fun W hW => by (skip); go_simp) (by assumption) ?_
      simp only [List.setIfInBounds_toArray, List.set_cons_zero, List.set_cons_succ]
      refine takeH (i := 4) (v := (.slice A3 k (C0 i))) rfl rfl (by kernel_rfl) (by kernel_rfl) (by kernel_rfl) (fun _ _ _ h => h) (by rfl) (fun W hW => by (skip); go_simp) (by assumption) ?_
      simp only [List.setIfInBounds_toArray, List.set_cons_zero, List.set_cons_succ]
      have l0 := HR.out.cell (i := 1) rfl
      have l1 := (HR.out.alloc (.cells #[.slice A3 k (C0 i)] 22)).cell (i := 1) rfl
      have HOA := Lib.hid (HO.out.alloc (.cells #[.slice A3 k (C0 i)] 22))
      have hsz := HI.out.sz
      have hln : i + 1 ≤ 65 := by omega
      refine wpAnyH_ready (rs := [1, 5]) (by kernel_rfl) (by simp) ?_
      refine (AllReadyH.cons rfl (fun K hK => ?_) (AllReadyH.cons rfl (fun K hK => ?_) AllReadyH.nil))
      · go_simp
        refine hK.out _ _ trivial (fun hHeld => ?_)
        clear hK K
        try simp only [Act.put, List.setIfInBounds_toArray, List.set_cons_zero, List.set_cons_succ]
        refine wpAnyH_ready (rs := [5]) (by kernel_rfl) (by simp) ?_
        refine (AllReadyH.cons rfl (fun K hK => ?_) AllReadyH.nil)
        go_simp
        refine hK.out _ _ trivial (fun hHeld => ?_)
        clear hK K
        try simp only [Act.put, List.setIfInBounds_toArray, List.set_cons_zero, List.set_cons_succ]
        refine wpAnyH_ready (rs := [6]) (by kernel_rfl) (by simp) ?_
        refine (AllReadyH.cons rfl (fun K hK => ?_) AllReadyH.nil)
        refine op_append_own (.tmp 25) (.tmp 29) 25 rfl (w.heap.size + 1 + 1) 22 j0 (.slice none 0 0) 1 24 Tryz.underlying25 hj0 hy0 hy1 hy2 rfl (by decide) _ _ _ rfl HOA.out _ 1 1 [.slice A3 k (C0 i)] rfl rfl (cell_one_new _ _ _) (by simp [Value.oneCell']) (by unfold maxLen; omega) (by omega) (by simp; omega) ?_
        intro v1 w3 hown hgrow _
        obtain ⟨A4, c4, rfl⟩ := owned_form hown
        have hr3' : Row w3 (w.heap.size + 1) 31 #[.int .i64 p, v] := (HR.out.alloc (.cells #[.slice A3 k (C0 i)] 22)).kept hgrow (fun e => by have := HO.out.lt _ e.symm; omega)
        have hc3 := hr3'.cell (i := 1) rfl
        have hf3 := hr3'.frozen 1
        have HN := Lib.hid (ser_step HI.out hlt HR.out HL.out HO.out HV.out HV3.out hown hgrow)
        clear hr3' hown hgrow
        refine hK.out _ _ trivial (fun hHeld => ?_)
        clear hK K
        try simp only [Act.put, List.setIfInBounds_toArray]
        refine takeH (i := 7) (v := (.pointer (some ⟨w.heap.size + 1, 1, none⟩))) rfl rfl (by kernel_rfl) (by kernel_rfl) (by kernel_rfl) (fun _ _ _ h => h) (by rfl) (fun W hW => by (skip); go_simp) (by assumption) ?_
        simp only [List.setIfInBounds_toArray, List.set_cons_zero, List.set_cons_succ]
        refine wpAnyH_ready (rs := [8]) (by kernel_rfl) (by simp) ?_
        refine (AllReadyH.cons rfl (fun K hK => ?_) AllReadyH.nil)
        go_simp
        refine hK.out _ _ trivial (fun hHeld => ?_)
        clear hK K
        try simp only [Act.put, List.setIfInBounds_toArray, List.set_cons_zero, List.set_cons_succ]
        refine wpAnyH_done (by kernel_rfl) ?_ _
        go_wp2
        go_roundw
        case rel => exact ⟨i + 1, by go_num, HN.out⟩
        case measure => simp [intOf]; omega
      · go_simp
        refine hK.out _ _ trivial (fun hHeld => ?_)
        clear hK K
        try simp only [Act.put, List.setIfInBounds_toArray, List.set_cons_zero, List.set_cons_succ]
        refine wpAnyH_ready (rs := [1]) (by kernel_rfl) (by simp) ?_
        refine (AllReadyH.cons rfl (fun K hK => ?_) AllReadyH.nil)
        go_simp
        refine hK.out _ _ trivial (fun hHeld => ?_)
        clear hK K
        try simp only [Act.put, List.setIfInBounds_toArray, List.set_cons_zero, List.set_cons_succ]
        refine wpAnyH_ready (rs := [6]) (by kernel_rfl) (by simp) ?_
        refine (AllReadyH.cons rfl (fun K hK => ?_) AllReadyH.nil)
        refine op_append_own (.tmp 25) (.tmp 29) 25 rfl (w.heap.size + 1 + 1) 22 j0 (.slice none 0 0) 1 24 Tryz.underlying25 hj0 hy0 hy1 hy2 rfl (by decide) _ _ _ rfl HOA.out _ 1 1 [.slice A3 k (C0 i)] rfl rfl (cell_one_new _ _ _) (by simp [Value.oneCell']) (by unfold maxLen; omega) (by omega) (by simp; omega) ?_
        intro v1 w3 hown hgrow _
        obtain ⟨A4, c4, rfl⟩ := owned_form hown
        have hr3' : Row w3 (w.heap.size + 1) 31 #[.int .i64 p, v] := (HR.out.alloc (.cells #[.slice A3 k (C0 i)] 22)).kept hgrow (fun e => by have := HO.out.lt _ e.symm; omega)
        have hc3 := hr3'.cell (i := 1) rfl
        have hf3 := hr3'.frozen 1
        have HN := Lib.hid (ser_step HI.out hlt HR.out HL.out HO.out HV.out HV3.out hown hgrow)
        clear hr3' hown hgrow
        refine hK.out _ _ trivial (fun hHeld => ?_)
        clear hK K
        try simp only [Act.put, List.setIfInBounds_toArray]
        refine takeH (i := 7) (v := (.pointer (some ⟨w.heap.size + 1, 1, none⟩))) rfl rfl (by kernel_rfl) (by kernel_rfl) (by kernel_rfl) (fun _ _ _ h => h) (by rfl) (fun W hW => by (skip); go_simp) (by assumption) ?_
        simp only [List.setIfInBounds_toArray, List.set_cons_zero, List.set_cons_succ]
        refine wpAnyH_ready (rs := [8]) (by kernel_rfl) (by simp) ?_
        refine (AllReadyH.cons rfl (fun K hK => ?_) AllReadyH.nil)
        go_simp
        refine hK.out _ _ trivial (fun hHeld => ?_)
        clear hK K
        try simp only [Act.put, List.setIfInBounds_toArray, List.set_cons_zero, List.set_cons_succ]
        refine wpAnyH_done (by kernel_rfl) ?_ _
        go_wp2
        go_roundw
        case rel => exact ⟨i + 1, by go_num, HN.out⟩
        case measure => simp [intOf]; omega
    · have e : i = k := by omega
      subst e
      have hd : decide ((i : Int) < (i : Int)) = false := decide_eq_false (by omega)
      obtain ⟨v, rs, hr, hl, hO, hV⟩ := hI.rows
      have hgr := ser_grid hI hl hO hV
      obtain ⟨A4, c4, rfl, -⟩ := hgr.form
      obtain ⟨bg, og, cg, RA, RC, eg, -, hbg, hgc⟩ := HA.out.at_ (by omega)
      cases eg
      obtain ⟨hh, hv⟩ := hgc i hk
      obtain ⟨bk, ok, ck, ek, -, hbk, hvk⟩ := hv.at_ (by omega)
      injection ek with eA _ eC
      rw [eA, eC] at hh hv
      clear eA eC
      obtain ⟨A5, hr5, hV5⟩ := cut_pre hv (k := i) (by omega)
      have hsz := hI.sz
      have HG := Lib.hid hgr
      have HB := Lib.hid hI.b
      have HX := Lib.hid hI.box
      have HR := Lib.hid hr
      have HK := Lib.hid (fun (W : World) (hb : Below wr.heap.size wr W) => (show W.cell? ⟨w.heap.size, 0, none⟩ = some (.int .i64 p) ∧ W.cell? ⟨w.heap.size, 1, none⟩ = some (.slice (some ⟨bg, og, none⟩) m c) ∧ W.cell? ⟨bg, og + i, none⟩ = some (.slice (some ⟨bk, ok, none⟩) m ck) ∧ W.cell? ⟨bk, ok + i, none⟩ = some (.int .i64 (f i i)) from
        ⟨(HX.out.below hb HX.out.lt).cell (i := 0) rfl, (HX.out.below hb HX.out.lt).cell (i := 1) rfl, ((HB.out.trans (hb.mono HB.out.size)).cell (p := ⟨bg, og + i, none⟩) hbg).trans hh, ((HB.out.trans (hb.mono HB.out.size)).cell (p := ⟨bk, ok + i, none⟩) hbk).trans (hvk i hk)⟩))
      have HV5 := Lib.hid (hV5.on HB.out)
      have HCOL := Lib.hid (fun W (hb : Below wr.heap.size wr W) => column_any (.slice (some ⟨bg, og, none⟩) m c) m m i f p W (by omega) hk (by omega) (HA.out.on (HB.out.trans (hb.mono HB.out.size))))
      have hfk := HF.out i hk i hk
      have HFK := Lib.hid (HF.out i hk)
      have HFC := Lib.hid (show InP p i (fun a => f a i) from fun a ha => HF.out a (by omega) i hk)
      have HFG := Lib.hid (show InG p i i f from fun a ha b hb => HF.out a (by omega) b (by omega))
      clear hI hr hl hO hV hgr hgc hh hv hvk hV5 HS HG0
      go_wp2_with fail
      refine wp_region_held_drew (S := (fun W => W.cell? ⟨w.heap.size, 0, none⟩ = some (.int .i64 p) ∧ W.cell? ⟨w.heap.size, 1, none⟩ = some (.slice (some ⟨bg, og, none⟩) m c) ∧ W.cell? ⟨bg, og + i, none⟩ = some (.slice (some ⟨bk, ok, none⟩) m ck) ∧ W.cell? ⟨bk, ok + i, none⟩ = some (.int .i64 (f i i)))) (by kernel_rfl) (HK.out _ (below_drew (Below.refl _ _))) (fun hHeld => ?_)
      have HB0 : Below wr.heap.size wr wr.drew := below_drew (Below.refl _ _)
      have HK2 := Lib.hid (fun (W : World) (hb : Below wr.heap.size wr W) => HK.out W hb)
      generalize hfg : f i i = fk at hHeld hfk HK2 ⊢
      have HFKE := Lib.hid hfg
      clear hfg HK
      generalize wr.drew = W0 at HB0 hHeld ⊢
      have HB0 := Lib.hid HB0
      refine takeH (i := 0) (v := (.pointer (some ⟨w.heap.size, 1, none⟩))) rfl rfl (by kernel_rfl) (by kernel_rfl) (by kernel_rfl) (fun _ _ _ h => h) (by rfl) (fun W hW => by (skip); go_simp) (by assumption) ?_
      simp only [List.setIfInBounds_toArray, List.set_cons_zero, List.set_cons_succ]
      refine takeH (i := 1) (v := (.slice (some ⟨bg, og, none⟩) m c)) rfl rfl (by kernel_rfl) (by kernel_rfl) (by kernel_rfl) (fun _ _ _ h => h) (by rfl) (fun W hW => by (obtain ⟨q0, q1, q2, q3⟩ := hW); go_simp) (by assumption) ?_
      simp only [List.setIfInBounds_toArray, List.set_cons_zero, List.set_cons_succ]
      refine takeH (i := 2) (v := (.int .i64 i)) rfl rfl (by kernel_rfl) (by kernel_rfl) (by kernel_rfl) (fun _ _ _ h => h) (by rfl) (fun W hW => by (skip); go_simp) (by assumption) ?_
      simp only [List.setIfInBounds_toArray, List.set_cons_zero, List.set_cons_succ]
      refine takeH (i := 3) (v := (.pointer (some ⟨bg, og + i, none⟩))) rfl rfl (by kernel_rfl) (by kernel_rfl) (by kernel_rfl) (fun _ _ _ h => h) (by rfl) (fun W hW => by (skip); go_simp) (by assumption) ?_
      simp only [List.setIfInBounds_toArray, List.set_cons_zero, List.set_cons_succ]
      refine takeH (i := 4) (v := (.slice (some ⟨bk, ok, none⟩) m ck)) rfl rfl (by kernel_rfl) (by kernel_rfl) (by kernel_rfl) (fun _ _ _ h => h) (by rfl) (fun W hW => by (obtain ⟨q0, q1, q2, q3⟩ := hW); go_simp) (by assumption) ?_
      simp only [List.setIfInBounds_toArray, List.set_cons_zero, List.set_cons_succ]
      refine takeH (i := 5) (v := (.int .i64 i)) rfl rfl (by kernel_rfl) (by kernel_rfl) (by kernel_rfl) (fun _ _ _ h => h) (by rfl) (fun W hW => by (skip); go_simp) (by assumption) ?_
      simp only [List.setIfInBounds_toArray, List.set_cons_zero, List.set_cons_succ]
      refine takeH (i := 6) (v := (.slice A5 i ck)) rfl rfl (by kernel_rfl) (by kernel_rfl) (by kernel_rfl) (fun _ _ _ h => h) (by rfl) (fun W hW => by (skip); go_simp) (by assumption) ?_
      simp only [List.setIfInBounds_toArray, List.set_cons_zero, List.set_cons_succ]
      refine takeH (i := 7) (v := (.agg #[.int .i64 p, .slice (some ⟨bg, og, none⟩) m c])) rfl rfl (by kernel_rfl) (by kernel_rfl) (by kernel_rfl) (fun _ _ _ h => h) (by rfl) (fun W hW => by (obtain ⟨q0, q1, q2, q3⟩ := hW); go_simp) (by assumption) ?_
      simp only [List.setIfInBounds_toArray, List.set_cons_zero, List.set_cons_succ]
      refine takeH (i := 8) (v := (.int .i64 i)) rfl rfl (by kernel_rfl) (by kernel_rfl) (by kernel_rfl) (fun _ _ _ h => h) (by rfl) (fun W hW => by (skip); go_simp) (by assumption) ?_
      simp only [List.setIfInBounds_toArray, List.set_cons_zero, List.set_cons_succ]
      refine takeH (i := 10) (v := (.int .i64 i)) rfl rfl (by kernel_rfl) (by kernel_rfl) (by kernel_rfl) (fun _ _ _ h => h) (by rfl) (fun W hW => by (skip); go_simp) (by assumption) ?_
      simp only [List.setIfInBounds_toArray, List.set_cons_zero, List.set_cons_succ]
      refine takeH (i := 12) (v := (.pointer (some ⟨w.heap.size, 1, none⟩))) rfl rfl (by kernel_rfl) (by kernel_rfl) (by kernel_rfl) (fun _ _ _ h => h) (by rfl) (fun W hW => by (skip); go_simp) (by assumption) ?_
      simp only [List.setIfInBounds_toArray, List.set_cons_zero, List.set_cons_succ]
      refine takeH (i := 13) (v := (.slice (some ⟨bg, og, none⟩) m c)) rfl rfl (by kernel_rfl) (by kernel_rfl) (by kernel_rfl) (fun _ _ _ h => h) (by rfl) (fun W hW => by (obtain ⟨q0, q1, q2, q3⟩ := hW); go_simp) (by assumption) ?_
      simp only [List.setIfInBounds_toArray, List.set_cons_zero, List.set_cons_succ]
      refine takeH (i := 14) (v := (.int .i64 i)) rfl rfl (by kernel_rfl) (by kernel_rfl) (by kernel_rfl) (fun _ _ _ h => h) (by rfl) (fun W hW => by (skip); go_simp) (by assumption) ?_
      simp only [List.setIfInBounds_toArray, List.set_cons_zero, List.set_cons_succ]
      refine takeH (i := 15) (v := (.pointer (some ⟨bg, og + i, none⟩))) rfl rfl (by kernel_rfl) (by kernel_rfl) (by kernel_rfl) (fun _ _ _ h => h) (by rfl) (fun W hW => by (skip); go_simp) (by assumption) ?_
      simp only [List.setIfInBounds_toArray, List.set_cons_zero, List.set_cons_succ]
      refine takeH (i := 16) (v := (.slice (some ⟨bk, ok, none⟩) m ck)) rfl rfl (by kernel_rfl) (by kernel_rfl) (by kernel_rfl) (fun _ _ _ h => h) (by rfl) (fun W hW => by (obtain ⟨q0, q1, q2, q3⟩ := hW); go_simp) (by assumption) ?_
      simp only [List.setIfInBounds_toArray, List.set_cons_zero, List.set_cons_succ]
      refine takeH (i := 17) (v := (.int .i64 i)) rfl rfl (by kernel_rfl) (by kernel_rfl) (by kernel_rfl) (fun _ _ _ h => h) (by rfl) (fun W hW => by (skip); go_simp) (by assumption) ?_
      simp only [List.setIfInBounds_toArray, List.set_cons_zero, List.set_cons_succ]
      refine takeH (i := 18) (v := (.pointer (some ⟨bk, ok + i, none⟩))) rfl rfl (by kernel_rfl) (by kernel_rfl) (by kernel_rfl) (fun _ _ _ h => h) (by rfl) (fun W hW => by (skip); go_simp) (by assumption) ?_
      simp only [List.setIfInBounds_toArray, List.set_cons_zero, List.set_cons_succ]
      refine takeH (i := 19) (v := (.int .i64 fk)) rfl rfl (by kernel_rfl) (by kernel_rfl) (by kernel_rfl) (fun _ _ _ h => h) (by rfl) (fun W hW => by (obtain ⟨q0, q1, q2, q3⟩ := hW); go_simp) (by assumption) ?_
      simp only [List.setIfInBounds_toArray, List.set_cons_zero, List.set_cons_succ]
      refine wpAnyH_ready (rs := [9]) (by kernel_rfl) (by simp) ?_
      refine (AllReadyH.cons rfl (fun K hK => ?_) AllReadyH.nil)
      go_simp
      go_at_call 75
      refine (HCOL.out _ HB0.out).mono ?_
      rintro e W1 ⟨rc, rfl, hvc, hbc⟩
      have HB1 := Lib.hid (HB0.out.trans (hbc.mono HB0.out.size))
      obtain ⟨A6, c6, rfl, -⟩ := hvc.form
      obtain ⟨A7, hr7, hV7⟩ := cut_pre hvc (k := i) (by omega)
      have HV7 := Lib.hid hV7.new_lt
      have HV51 := Lib.hid (HV5.out.on HB1.out)
      have HG1 := Lib.hid (HG.out.on HB1.out)
      have HX1 := Lib.hid (HX.out.below HB1.out HX.out.lt)
      have HR1 := Lib.hid (HR.out.below HB1.out HR.out.lt)
      have HBW := Lib.hid (HB.out.trans (HB1.out.mono HB.out.size))
      refine hK.out _ _ (HK2.out _ HB1.out) (fun hHeld => ?_)
      clear hK K hvc hbc hV7
      try simp only [Act.put, List.setIfInBounds_toArray, List.set_cons_zero, List.set_cons_succ]
      refine takeH (i := 11) (v := (.slice A7 i c6)) rfl rfl (by kernel_rfl) (by kernel_rfl) (by kernel_rfl) (fun _ _ _ h => h) (by rfl) (fun W hW => by (skip); go_simp) (by assumption) ?_
      simp only [List.setIfInBounds_toArray, List.set_cons_zero, List.set_cons_succ]
      refine takeH (i := 20) (v := (.slice A5 i ck)) rfl rfl (by kernel_rfl) (by kernel_rfl) (by kernel_rfl) (fun _ _ _ h => h) (by rfl) (fun W hW => by (skip); go_simp) (by assumption) ?_
      simp only [List.setIfInBounds_toArray, List.set_cons_zero, List.set_cons_succ]
      refine takeH (i := 21) (v := (.slice A7 i c6)) rfl rfl (by kernel_rfl) (by kernel_rfl) (by kernel_rfl) (fun _ _ _ h => h) (by rfl) (fun W hW => by (skip); go_simp) (by assumption) ?_
      simp only [List.setIfInBounds_toArray, List.set_cons_zero, List.set_cons_succ]
      refine takeH (i := 22) (v := (.int .i64 fk)) rfl rfl (by kernel_rfl) (by kernel_rfl) (by kernel_rfl) (fun _ _ _ h => h) (by rfl) (fun W hW => by (skip); go_simp) (by assumption) ?_
      simp only [List.setIfInBounds_toArray, List.set_cons_zero, List.set_cons_succ]
      clear hr5 hr7 HK2 HCOL HV5 HG HX HR HB HB0 HB1
      refine wpAnyH_done (by kernel_rfl) ?_ _
      clear HA
      have hHP := HX1.out.cell (i := 0) rfl
      have hb0 := HR1.out.cell (i := 0) rfl
      have hb1 := HR1.out.cell (i := 1) rfl
      have hw1 : IntKind.i64.wrap (p - fk) = p - fk := IntWalk.i64_in _ ⟨by omega, by omega⟩
      have hne : (p != 0) = true := by simp; omega
      have hne0 : ¬ p = 0 := by omega
      have hr : (p - fk).tmod p = (p - fk) % p := Int.tmod_eq_emod_of_nonneg (by omega)
      have hq1 : 0 ≤ (p - fk) % p := Int.emod_nonneg _ (by omega)
      have hq2 : (p - fk) % p < p := Int.emod_lt_of_pos _ (by omega)
      have hw3 : IntKind.i64.wrap ((p - fk) % p) = (p - fk) % p := IntWalk.i64_in _ ⟨by omega, by omega⟩
      have hz : (p - fk) % p = sK f i 1 % p := by
        have h1 := sub_mod (p := p) fk
        rw [Int.emod_eq_of_lt hfk.1 hfk.2] at h1
        rw [h1]
        show (-fk) % p = (- f i i) % p
        rw [HFKE.out]
      generalize (p - fk) % p = z0 at hr hq1 hq2 hw3 hz
      have HZ := Lib.hid hz
      have HJ0 := Lib.hid (show SerJ W1 p i f 0 (.slice (some ⟨W1.heap.size, 0, none⟩) 2 2) (.slice A5 i ck) (W1.alloc (.cells #[.int .i64 1, .int .i64 z0] 3)) from by
        have hB : Below W1.heap.size W1 (W1.alloc (.cells #[.int .i64 1, .int .i64 z0] 3)) := (Below.refl _ _).alloc (Nat.le_refl _) _
        refine ⟨Nat.zero_le _, hB, ?_, ?_⟩
        · have h2 := World.ownsRow_lit (base := W1.heap.size) (e := 3) (size := 1) W1 #[.int .i64 1, .int .i64 z0] 2 (Nat.le_refl _) (by decide) rfl
          have e : serL p f i 0 = [1, z0] := by
            show [sK f i 0 % p, sK f i 1 % p] = _
            rw [← HZ.out, show sK f i 0 = 1 from rfl, Int.emod_eq_of_lt (by omega) (by omega)]
          unfold OwnsI
          rw [e]
          exact h2
        · refine (HV51.out.keep (fun b hb => ⟨by simp; omega, fun e => by simp [Value.ownBlock] at e; omega⟩) (fun q hq => hB.cell hq) (fun j hj => ?_))
          show f i j = f i j % p
          rw [Int.emod_eq_of_lt (HFK.out j (by omega)).1 (HFK.out j (by omega)).2])
      clear hz HV51 HFKE
      go_wp2
      generalize W1.alloc (.cells #[.int .i64 1, .int .i64 z0] 3) = W2 at HJ0 ⊢
      clear hHP hb0 hb1 hw1 hr hq1 hq2 hw3 HZ hHeld HFK
      go_loopw [8, 11, 62] (fun r l t wr => ∃ q : Nat, t = .int .i64 q ∧ SerJ W1 p i f q l r wr) (fun _ _ t _ => i - (intOf t).toNat)
      case atStart => exact ⟨0, rfl, HJ0.out⟩
      case round =>
        obtain ⟨q, rfl, hJ⟩ := hrel
        rename World => wj
        have hq := hJ.le
        obtain ⟨Al, cl, hl⟩ := hJ.own.form
        rw [serL_len] at hl
        subst hl
        obtain ⟨Ar, cr, rfl, -⟩ := hJ.rv.form
        by_cases hql : q < i
        · have hd : decide ((q : Int) < (i : Int)) = true := decide_eq_true (by omega)
          have HJ := Lib.hid hJ.drew
          have HKP := Lib.hid (fun (W : World) (hb : Below W1.heap.size W1 W) => (show W.cell? ⟨w.heap.size, 0, none⟩ = some (.int .i64 p) from (HX1.out.below hb HX1.out.lt).cell (i := 0) rfl))
          have hdot := dot_any (.slice Ar i cr) (.slice A7 i c6) i i (fun j => rowP f i q j % p) (fun a => f a i) p wj.drew (by omega) (Nat.le_refl _) (hJ.drew.rv.more fun b hb => hb.1) (HV7.out.on hJ.drew.b) (by omega) hp1 (fun j _ => ⟨Int.emod_nonneg _ (by omega), Int.emod_lt_of_pos _ (by omega)⟩) HFC.out
          have hys := sK_mod (p := p) f i q
          generalize hdv : sumTo (fun j => rowP f i q j % p * f j i) i % p = dv at hdot hys
          have hdv1 : 0 ≤ dv ∧ dv < p := by rw [← hdv]; exact ⟨Int.emod_nonneg _ (by omega), Int.emod_lt_of_pos _ (by omega)⟩
          clear hdv
          have hw1 : IntKind.i64.wrap (p - dv) = p - dv := IntWalk.i64_in _ ⟨by omega, by omega⟩
          have hr : (p - dv).tmod p = (p - dv) % p := Int.tmod_eq_emod_of_nonneg (by omega)
          have hq1 : 0 ≤ (p - dv) % p := Int.emod_nonneg _ (by omega)
          have hq2 : (p - dv) % p < p := Int.emod_lt_of_pos _ (by omega)
          have hw3 : IntKind.i64.wrap ((p - dv) % p) = (p - dv) % p := IntWalk.i64_in _ ⟨by omega, by omega⟩
          generalize (p - dv) % p = y at hys hr hq1 hq2 hw3
          have HYS := Lib.hid hys
          have HDOT := Lib.hid hdot
          have HS0 := Lib.hid (HKP.out _ hJ.drew.b)
          clear hJ hdot hys HJ0
          go_wp2_with fail
          refine wp_region_held_drew (S := (fun W => W.cell? ⟨w.heap.size, 0, none⟩ = some (.int .i64 p))) (by kernel_rfl) HS0.out (fun hHeld => ?_)
          clear HS0 hd
          generalize wj.drew = W0 at HJ HDOT hHeld ⊢
          refine takeH (i := 0) (v := (.slice Al (q + 2) cl)) rfl rfl (by kernel_rfl) (by kernel_rfl) (by kernel_rfl) (fun _ _ _ h => h) (by rfl) (fun W hW => by (skip); go_simp) (by assumption) ?_
          simp only [List.setIfInBounds_toArray, List.set_cons_zero, List.set_cons_succ]
          refine takeH (i := 1) (v := (.pointer (some ⟨w.heap.size, 0, none⟩))) rfl rfl (by kernel_rfl) (by kernel_rfl) (by kernel_rfl) (fun _ _ _ h => h) (by rfl) (fun W hW => by (skip); go_simp) (by assumption) ?_
          simp only [List.setIfInBounds_toArray, List.set_cons_zero, List.set_cons_succ]
          refine takeH (i := 2) (v := (.int .i64 p)) rfl rfl (by kernel_rfl) (by kernel_rfl) (by kernel_rfl) (fun _ _ _ h => h) (by rfl) (fun W hW => by (skip); go_simp) (by assumption) ?_
          simp only [List.setIfInBounds_toArray, List.set_cons_zero, List.set_cons_succ]
          refine takeH (i := 3) (v := (.slice Ar i cr)) rfl rfl (by kernel_rfl) (by kernel_rfl) (by kernel_rfl) (fun _ _ _ h => h) (by rfl) (fun W hW => by (skip); go_simp) (by assumption) ?_
          simp only [List.setIfInBounds_toArray, List.set_cons_zero, List.set_cons_succ]
          refine takeH (i := 4) (v := (.slice A7 i c6)) rfl rfl (by kernel_rfl) (by kernel_rfl) (by kernel_rfl) (fun _ _ _ h => h) (by rfl) (fun W hW => by (skip); go_simp) (by assumption) ?_
          simp only [List.setIfInBounds_toArray, List.set_cons_zero, List.set_cons_succ]
          refine takeH (i := 5) (v := (.pointer (some ⟨w.heap.size, 0, none⟩))) rfl rfl (by kernel_rfl) (by kernel_rfl) (by kernel_rfl) (fun _ _ _ h => h) (by rfl) (fun W hW => by (skip); go_simp) (by assumption) ?_
          simp only [List.setIfInBounds_toArray, List.set_cons_zero, List.set_cons_succ]
          refine takeH (i := 6) (v := (.int .i64 p)) rfl rfl (by kernel_rfl) (by kernel_rfl) (by kernel_rfl) (fun _ _ _ h => h) (by rfl) (fun W hW => by (skip); go_simp) (by assumption) ?_
          simp only [List.setIfInBounds_toArray, List.set_cons_zero, List.set_cons_succ]
          refine takeH (i := 9) (v := (.pointer (some ⟨w.heap.size, 0, none⟩))) rfl rfl (by kernel_rfl) (by kernel_rfl) (by kernel_rfl) (fun _ _ _ h => h) (by rfl) (fun W hW => by (skip); go_simp) (by assumption) ?_
          simp only [List.setIfInBounds_toArray, List.set_cons_zero, List.set_cons_succ]
          refine takeH (i := 10) (v := (.int .i64 p)) rfl rfl (by kernel_rfl) (by kernel_rfl) (by kernel_rfl) (fun _ _ _ h => h) (by rfl) (fun W hW => by (skip); go_simp) (by assumption) ?_
          simp only [List.setIfInBounds_toArray, List.set_cons_zero, List.set_cons_succ]
          refine wpAnyH_ready (rs := [7]) (by kernel_rfl) (by simp) ?_
          refine (AllReadyH.cons rfl (fun K hK => ?_) AllReadyH.nil)
          go_simp
          go_at_call 76
          refine HDOT.out.mono ?_
          rintro e W3 ⟨rfl, hb3⟩
          have hb13 := HJ.out.b.trans (hb3.mono HJ.out.b.size)
          have HB3 := Lib.hid hb3
          have HB13 := Lib.hid hb13
          have HO3 := Lib.hid (HJ.out.own.below hb3)
          refine hK.out _ _ (HKP.out _ hb13) (fun hHeld => ?_)
          clear hK K hb3 HDOT
          try simp only [Act.put, List.setIfInBounds_toArray, List.set_cons_zero, List.set_cons_succ]
          refine takeH (i := 8) (v := (.int .i64 (p - dv))) rfl rfl (by kernel_rfl) (by kernel_rfl) (by kernel_rfl) (fun _ _ _ h => h) (by rfl) (fun W hW => by (skip); go_simp) (by assumption) ?_
          simp only [List.setIfInBounds_toArray, List.set_cons_zero, List.set_cons_succ]
          refine takeH (i := 11) (v := (.int .i64 y)) rfl rfl (by kernel_rfl) (by kernel_rfl) (by kernel_rfl) (fun _ _ _ h => h) (by rfl) (fun W hW => by (skip); go_simp) (by assumption) ?_
          simp only [List.setIfInBounds_toArray, List.set_cons_zero, List.set_cons_succ]
          have HOA := Lib.hid (HO3.out.alloc (.cells #[.int .i64 y] 3))
          have HCN := Lib.hid (cell_one_new W3 (.int .i64 y) 3)
          have hsz3 : W1.heap.size ≤ W3.heap.size := hb13.size
          have hlen : (serL p f i q).length + 1 ≤ 70 := by rw [serL_len]; omega
          refine wpAnyH_ready (rs := [12]) (by kernel_rfl) (by simp) ?_
          refine (AllReadyH.cons rfl (fun K hK => ?_) AllReadyH.nil)
          go_simp
          refine hK.out _ _ (HKP.out _ (hb13.alloc hb13.size (.cells #[.int .i64 y] 3))) (fun hHeld => ?_)
          clear hK K hb13
          try simp only [Act.put, List.setIfInBounds_toArray, List.set_cons_zero, List.set_cons_succ]
          refine wpAnyH_ready (rs := [13]) (by kernel_rfl) (by simp) ?_
          refine (AllReadyH.cons rfl (fun K hK => ?_) AllReadyH.nil)
          refine op_append_own (.tmp 64) (.tmp 76) 22 rfl W1.heap.size 3 i0 (.int .i64 0) 1 8 Tryz.underlying22 hi0 hz0 hz1 hz2 rfl (by decide) (.slice Al (q + 2) cl) (q + 2) (icells (serL p f i q)) rfl (by have := HOA.out; rw [serL_len] at this; exact this) ⟨W3.heap.size, 0, none⟩ 1 1 [.int .i64 y] rfl rfl HCN.out (by simp [Value.oneCell']) (by unfold maxLen; omega) (by omega) (by simp; omega) ?_
          intro v1 W4 hown hgrow _
          obtain ⟨A8, c8, rfl⟩ := owned_form hown
          have hz4 : (W3.alloc (.cells #[.int .i64 y] 3)).heap.size = W3.heap.size + 1 := by simp
          have hsz4 := hgrow.size
          have hB34 : Below W1.heap.size W3 W4 := ((Below.refl W1.heap.size W3).alloc hsz3 _).grown hgrow (by omega) (fun g hg => (HO3.out.lt g hg).1)
          have hB14 := HB13.out.trans hB34
          have hrv : Vec W4 (· < W4.heap.size) (.slice Ar i cr) i (fun j => rowP f i q j % p) := HJ.out.rv.keep (fun b hb => by have := hb.1; have := HB3.out.size; show b < W4.heap.size; omega) (fun a ha => World.cell?_of_block (by
            have h1 := ha.1
            have h2 := HB3.out.size
            rw [hgrow.block a.block (by omega) (by exact fun e => ha.2 e.symm), (World.grownBy_alloc W3 (.cells #[.int .i64 y] 3) none).block a.block (by omega) (by simp)]
            exact HB3.out.block a.block h1)) (fun _ _ => rfl)
          have HAP := Lib.hid (apply_any (.slice Ar i cr) (.slice A4 i c4) i i (fun j => rowP f i q j % p) f p W4 (by omega) (by omega) (by omega) hrv (HG1.out.on hB14) hp2 hp1 (fun j _ => ⟨Int.emod_nonneg _ (by omega), Int.emod_lt_of_pos _ (by omega)⟩) HFG.out)
          have hb0 := (HR1.out.below hB14 HR1.out.lt).cell (i := 0) rfl
          have hb1 := (HR1.out.below hB14 HR1.out.lt).cell (i := 1) rfl
          have HOWN := Lib.hid hown
          have HGRW := Lib.hid hgrow
          refine hK.out _ _ (HKP.out _ hB14) (fun hHeld => ?_)
          clear hK K hown hgrow hB34 hB14 hrv hz4 hsz4 HOA HCN
          try simp only [Act.put, List.setIfInBounds_toArray]
          refine takeH (i := 14) (v := (.slice A8 (q + 2 + 1) c8)) rfl rfl (by kernel_rfl) (by kernel_rfl) (by kernel_rfl) (fun _ _ _ h => h) (by rfl) (fun W hW => by (skip); go_simp) (by assumption) ?_
          simp only [List.setIfInBounds_toArray, List.set_cons_zero, List.set_cons_succ]
          refine wpAnyH_done (by kernel_rfl) ?_ _
          go_wp2_with fail
          refine HAP.out.mono ?_
          rintro e W5 ⟨r1, rfl, hv, hb⟩
          have HN := Lib.hid (serj_step HJ.out hql HB3.out HO3.out HYS.out HOWN.out HGRW.out hb (hv.congr fun j _ => rowP_mod f i q j))
          obtain ⟨A9, c9, rfl, -⟩ := hv.form
          clear hv hb HAP
          go_wp2_with fail
          go_roundw
          case rel => exact ⟨q + 1, by go_num, HN.out⟩
          case measure => simp [intOf]; omega
        · have hqi : q = i := by omega
          subst hqi
          have hd : decide ((q : Int) < (q : Int)) = false := decide_eq_false (by omega)
          have hE : Vec wj (New w wj) (.slice Al (q + 2) cl) (q + 2) (fun j => sK f q j % p) := by
            have := hJ.own.vec (S := New w wj) (fun g hg => ⟨by have := (hJ.own.lt g hg).1; have := HBW.out.size; omega, (hJ.own.lt g hg).2⟩)
            rw [serL_len] at this
            exact this.congr fun j hj => serL_get p f q q j hj
          have HE := Lib.hid hE
          have HBE := Lib.hid (HBW.out.trans (hJ.b.mono HBW.out.size))
          clear hJ hE
          go_wp2
          go_ret
          exact ⟨_, rfl, HE.out, HBE.out⟩
end Go.Proofs.YtinoomcboinokaaGreat

/- matrix.Poly. -/
namespace Go.Proofs.YtinoomcboinokaaGreat
open Go Go.RowKit Num Go.Shelf

theorem reverse_any (base g cap : Nat) (zs : List Int) (w : World) (hl : zs.length ≤ 1000) (hO : w.ownsRow base 3 1 (.slice (some ⟨g, 0, none⟩) zs.length cap) zs.length (icells zs)) :
    Calls Tryz.prog 50 #[.slice (some ⟨g, 0, none⟩) zs.length cap] w fun e w' => e = .returned (.tuple #[]) ∧ w'.ownsRow base 3 1 (.slice (some ⟨g, 0, none⟩) zs.length cap) zs.length (icells zs.reverse) ∧ w.grownBy w' (some g) := by
  rcases hO.2 with ⟨h0, _⟩ | ⟨g', cap', cur, hv, hb, hg, h1, h2, h3, ht⟩
  · cases h0
  · injection hv with e1 _ e3
    injection e1 with e1
    injection e1 with e1
    subst e1; subst e3
    rw [Nat.mul_one] at ht
    refine (Any.slices_Reverse_int Tryz.laysRev g 0 cap zs w (holds_of_blockI hg ht) (by omega)).mono ?_
    rintro e w' ⟨he, n, rfl⟩
    have hr := ownsRow_sortedI (n := n) (os := #[]) (ss := zs) (ts := zs.reverse) (by simp) hb hg h1 h2 h3
    have hq := grownBy_sortedI (w := w) (g := g) (n := n) (os := #[]) zs.reverse.toArray
    rw [Go.Sort.grow_empty] at hr hq
    exact ⟨he, hr, hq⟩

theorem prV_sum {p : Int} (g f : Nat → Int) (j : Nat) : ∀ i, Cg p (prV p g f i j) (sumTo (fun a => if a ≤ j then g a * f (j - a) else 0) i)
  | 0 => rfl
  | i + 1 => by
    have ih := prV_sum (p := p) g f j i
    show Cg p (if i ≤ j then (prV p g f i j + g i * f (j - i)) % p else prV p g f i j) (sumTo (fun a => if a ≤ j then g a * f (j - a) else 0) i + (if i ≤ j then g i * f (j - i) else 0))
    by_cases h : i ≤ j
    · rw [if_pos h, if_pos h]
      exact (Cg.mod p _).trans (ih.add (.refl p _))
    · rw [if_neg h, if_neg h, Int.add_zero]
      exact ih
/-- The product with the factor of the next row. -/
theorem prV_berk {p : Int} (hp : 0 < p) (f : Nat → Nat → Int) (k j : Nat) (hj : j < k + 2) : prV p (fun j => berk f k j % p) (fun j => sK f k j % p) (k + 1) j = berk f (k + 1) j % p := by
  have h1 := prV_sum (p := p) (fun j => berk f k j % p) (fun j => sK f k j % p) j (k + 1)
  have h2 : Cg p (sumTo (fun a => if a ≤ j then (berk f k a % p) * (sK f k (j - a) % p) else 0) (k + 1)) (sumTo (fun a => if a ≤ j then berk f k a * sK f k (j - a) else 0) (k + 1)) := sumTo_cg _ fun a _ => by
    split
    · exact (Cg.mod p _).mul (Cg.mod p _)
    · rfl
  have h3 : ∀ d e : Nat, (∀ a, d ≤ a → a < d + e → ¬ a ≤ j) → sumTo (fun a => if a ≤ j then berk f k a * sK f k (j - a) else 0) (d + e) = sumTo (fun a => if a ≤ j then berk f k a * sK f k (j - a) else 0) d := fun d e => by
    induction e with
    | zero => intro _; rfl
    | succ e ih =>
      intro h
      rw [← Nat.add_assoc, sumTo, ih (fun a h1 h2 => h a h1 (by omega)), if_neg (h (d + e) (by omega) (by omega)), Int.add_zero]
  have h4 : berk f (k + 1) j = sumTo (fun a => if a ≤ j then berk f k a * sK f k (j - a) else 0) (k + 1) := by
    show sumTo (fun a => berk f k a * sK f k (j - a)) (j + 1) = _
    have e1 : sumTo (fun a => berk f k a * sK f k (j - a)) (j + 1) = sumTo (fun a => if a ≤ j then berk f k a * sK f k (j - a) else 0) (j + 1) := sumTo_congr _ fun a ha => by rw [if_pos (by omega)]
    rw [e1]
    by_cases h : j ≤ k
    · have := h3 (j + 1) (k - j) fun a h1 _ => by omega
      rw [show j + 1 + (k - j) = k + 1 by omega] at this
      exact this.symm
    · obtain rfl : j = k + 1 := by omega
      rw [sumTo, if_pos (Nat.le_refl _), (berk_deg f k).1 (k + 1) (by omega), Int.zero_mul, Int.add_zero]
  rw [h4]
  have h5 := prV_in hp (fun j => berk f k j % p) (fun j => sK f k j % p) (k + 2) (k + 1) j hj
  have h6 : prV p (fun j => berk f k j % p) (fun j => sK f k j % p) (k + 1) j % p = sumTo (fun a => if a ≤ j then berk f k a * sK f k (j - a) else 0) (k + 1) % p := h1.trans h2
  rwa [Int.emod_eq_of_lt h5.1 h5.2] at h6

/-- What Poly gives: the coefficients, the power 0 first. -/
def polyF (p : Int) (f : Nat → Nat → Int) (m j : Nat) : Int := berk f m (m - j) % p
def PolyP (w : World) (x : Int) (p : Int) (m : Nat) (f : Nat → Nat → Int) (e : Ending) (w' : World) : Prop :=
  Below w.heap.size w w' ∧ (x ≠ 0 → e = .returned (.tuple #[.slice none 0 0, .int .i64 x])) ∧ (x = 0 → ∃ r, e = .returned (.tuple #[r, .int .i64 0]) ∧ Vec w' (New w w') r (m + 1) (polyF p f m))

theorem berkL_row {w : World} {g n : Nat} {F : Nat → Int} (B : Nat) (hg : B ≤ g) (hr : Row w g 3 (CTab n (iv F))) (hn : n ≤ 1000) : w.ownsRow B 3 1 (.slice (some ⟨g, 0, none⟩) n n) n (icells ((List.range n).map F)) := by
  have e : (CTab n (iv F)).toList = icells ((List.range n).map F) := by
    apply List.ext_getElem?
    intro j
    by_cases hj : j < n
    · simp [CTab, icells, iv, hj]
    · simp [CTab, icells, iv, hj]
  refine ⟨by simp [icells], .inr ⟨g, n, CTab n (iv F), rfl, hg, hr, Nat.le_refl _, by unfold maxLen; omega, by simp [CTab], ?_⟩⟩
  rw [List.take_of_length_le (by simp [CTab]), e]

set_option maxRecDepth 100000 in
set_option maxHeartbeats 2000000 in
theorem Poly_any (ra : Value) (m : Nat) (n : Nat → Nat) (f : Nat → Nat → Int) (p : Int) (w : World) (hm : m ≤ 1000000) (hn : ∀ i, i < m → n i ≤ 1000000) (ha : Grid w (· < w.heap.size) ra m n f) (x : Int) (hx : x = chkS (chkM p m n f) m (n 0)) :
    Calls Tryz.prog 25 #[.agg #[.int .i64 p, ra]] w (PolyP w x p m f) := by
  have HC := fun W h => Lib.hid (checkSquare_any ra m n f p W hm hn h)
  rw [← hx] at HC
  have HA := Lib.hid ha
  obtain ⟨A, c, rfl, hcm⟩ := ha.form
  have HBX := Lib.hid (row_new (W := w) rfl 31 #[.int .i64 p, .slice A m c])
  have HB1 := Lib.hid (show Below w.heap.size w (w.alloc (.cells #[.int .i64 p, .slice A m c] 31)) from (Below.refl _ _).alloc (Nat.le_refl _) _)
  by_cases hx0 : x = 0
  · subst hx0
    obtain ⟨h1, h2⟩ := chkS_zero hx.symm
    obtain ⟨hmod, g1, g2, g3, g4, g5⟩ := chkM_zero h1
    obtain ⟨hp2, hp4, hp6⟩ := modB_true hmod
    have hIN : InG p m m f := fun i hi => by have := (g5 i hi).2; rw [(g5 i hi).1, ← h2] at this; exact this
    have HIN := Lib.hid hIN
    have HA2 := Lib.hid (grid_reg HA.out (fun i hi => ((g5 i hi).1).trans h2.symm))
    clear ha hn g5 hmod h1 hx h2 hIN hp6
    go_enter Tryz.func25, Tryz.ntmps25
    go_wp2_with fail
    refine (HC _ (HA.out.on HB1.out)).out.mono ?_
    rintro e w4 ⟨rfl, hb4⟩
    have HB4 := Lib.hid (HB1.out.trans (hb4.mono HB1.out.size))
    have HR4 := Lib.hid (HBX.out.below hb4 HBX.out.lt)
    have c1 := HR4.out.cell (i := 1) rfl
    have hlt4 := HR4.out.lt
    have hB5 := HB4.out.alloc HB4.out.size (.cells #[.int .i64 1] 3)
    have hR5 := HR4.out.alloc (.cells #[.int .i64 1] 3)
    have hL5 : Row (w4.alloc (.cells #[.int .i64 1] 3)) w4.heap.size 3 (CTab (0 + 1) (iv (fun j => berk f 0 j % p))) := by
      have := row_new (W := w4) rfl 3 #[.int .i64 1]
      have e : CTab (0 + 1) (iv (fun j => berk f 0 j % p)) = #[.int .i64 1] := by
        have e0 : berk f 0 0 % p = 1 := by rw [berk_zero]; exact Int.emod_eq_of_lt (by omega) (by omega)
        rw [CTab_congr (0 + 1) _ (fun _ => .int .i64 1) fun i hi => by
          obtain rfl : i = 0 := by omega
          show Value.int .i64 (berk f 0 0 % p) = _
          rw [e0]]
        rfl
      rw [e]; exact this
    have hlw : w.heap.size < w4.heap.size := hlt4
    clear hb4
    go_wp2_with fail
    clear c1
    generalize hgl : w4.heap.size = gl at hL5 hlw ⊢
    clear hgl
    generalize w4.alloc (.cells #[.int .i64 1] 3) = w5 at hB5 hR5 hL5 ⊢
    have HB5 := Lib.hid hB5
    have HR5 := Lib.hid hR5
    have HL5 := Lib.hid hL5
    clear hB5 hR5 hL5 HB4 HR4 HBX HB1 HC hlt4
    go_loopw [5, 16] (fun l t wr => ∃ k g : Nat, l = .slice (some ⟨g, 0, none⟩) (k + 1) (k + 1) ∧ t = .int .i64 k ∧ k ≤ m ∧ w.heap.size < g ∧ Row wr g 3 (CTab (k + 1) (iv (fun j => berk f k j % p))) ∧ Row wr w.heap.size 31 #[.int .i64 p, .slice A m c] ∧ Below w.heap.size w wr) (fun _ t _ => m - (intOf t).toNat)
    case atStart => exact ⟨0, gl, rfl, rfl, Nat.zero_le _, hlw, HL5.out, HR5.out, HB5.out⟩
    case round =>
      obtain ⟨k, g, rfl, rfl, hk, hg, hL, hR, hB⟩ := hrel
      by_cases hlt : k < m
      · have d1 : decide (k < m) = true := decide_eq_true hlt
        have d2 : decide ((k : Int) < (m : Int)) = true := decide_eq_true (by omega)
        have HL := Lib.hid (show Row wr.drew g 3 (CTab (k + 1) (iv (fun j => berk f k j % p))) from hL)
        have HR := Lib.hid (show Row wr.drew w.heap.size 31 #[.int .i64 p, .slice A m c] from hR)
        have HB := Lib.hid (below_drew hB)
        have HSE := Lib.hid (series_any (.slice A m c) m k f p wr.drew (by omega) hlt hp2 (by omega) (HA2.out.on HB.out) HIN.out)
        clear hL hR hB HL5 HR5 HB5
        go_wp2_with fail
        refine wp_region_held_drew (S := (fun W => W.cell? ⟨w.heap.size, 0, none⟩ = some (.int .i64 p) ∧ W.cell? ⟨w.heap.size, 1, none⟩ = some (.slice A m c))) (by kernel_rfl) ⟨HR.out.cell (i := 0) rfl, HR.out.cell (i := 1) rfl⟩ (fun hHeld => ?_)
        generalize wr.drew = W0 at HL HR HB HSE hHeld ⊢
        refine takeH (i := 0) (v := (.slice (some ⟨g, 0, none⟩) (k + 1) (k + 1))) rfl rfl (by kernel_rfl) (by kernel_rfl) (by kernel_rfl) (fun _ _ _ h => h) (by rfl) (fun W hW => by (skip); go_simp) (by assumption) ?_
        simp only [List.setIfInBounds_toArray, List.set_cons_zero, List.set_cons_succ]
        refine takeH (i := 1) (v := (.agg #[.int .i64 p, .slice A m c])) rfl rfl (by kernel_rfl) (by kernel_rfl) (by kernel_rfl) (fun _ _ _ h => h) (by rfl) (fun W hW => by (obtain ⟨q0, q1⟩ := hW); go_simp) (by assumption) ?_
        simp only [List.setIfInBounds_toArray, List.set_cons_zero, List.set_cons_succ]
        refine takeH (i := 2) (v := (.int .i64 k)) rfl rfl (by kernel_rfl) (by kernel_rfl) (by kernel_rfl) (fun _ _ _ h => h) (by rfl) (fun W hW => by (skip); go_simp) (by assumption) ?_
        simp only [List.setIfInBounds_toArray, List.set_cons_zero, List.set_cons_succ]
        refine takeH (i := 4) (v := (.pointer (some ⟨w.heap.size, 0, none⟩))) rfl rfl (by kernel_rfl) (by kernel_rfl) (by kernel_rfl) (fun _ _ _ h => h) (by rfl) (fun W hW => by (skip); go_simp) (by assumption) ?_
        simp only [List.setIfInBounds_toArray, List.set_cons_zero, List.set_cons_succ]
        refine takeH (i := 5) (v := (.int .i64 p)) rfl rfl (by kernel_rfl) (by kernel_rfl) (by kernel_rfl) (fun _ _ _ h => h) (by rfl) (fun W hW => by (obtain ⟨q0, q1⟩ := hW); go_simp) (by assumption) ?_
        simp only [List.setIfInBounds_toArray, List.set_cons_zero, List.set_cons_succ]
        refine wpAnyH_ready (rs := [3]) (by kernel_rfl) (by simp) ?_
        refine (AllReadyH.cons rfl (fun K hK => ?_) AllReadyH.nil)
        go_simp
        go_at_call 49
        refine HSE.out.mono ?_
        rintro e W1 ⟨r, rfl, hv, hb⟩
        obtain ⟨A1, c1, rfl, -⟩ := hv.form
        have hL1 := HL.out.below hb HL.out.lt
        have hR1 := HR.out.below hb HR.out.lt
        have hB1 := HB.out.trans (hb.mono HB.out.size)
        have HPR := Lib.hid (mprod_any (.slice (some ⟨g, 0, none⟩) (k + 1) (k + 1)) (.slice A1 (k + 2) c1) (k + 1) (k + 2) (fun j => berk f k j % p) (fun j => sK f k j % p) p W1 (by omega) (by omega) (by omega) (hL1.vec hL1.lt (Nat.le_refl _)) hv.new_lt (by omega) (by omega) (fun j _ => ⟨Int.emod_nonneg _ (by omega), Int.emod_lt_of_pos _ (by omega)⟩) (fun j _ => ⟨Int.emod_nonneg _ (by omega), Int.emod_lt_of_pos _ (by omega)⟩))
        have HR1 := Lib.hid hR1
        have HB1 := Lib.hid hB1
        refine hK.out _ _ ⟨hR1.cell (i := 0) rfl, hR1.cell (i := 1) rfl⟩ (fun hHeld => ?_)
        clear hK K hv hb hL1 hR1 hB1 HSE HL HR HB
        try simp only [Act.put, List.setIfInBounds_toArray, List.set_cons_zero, List.set_cons_succ]
        refine wpAnyH_ready (rs := [6]) (by kernel_rfl) (by simp) ?_
        refine (AllReadyH.cons rfl (fun K hK => ?_) AllReadyH.nil)
        go_simp
        go_at_call 48
        refine HPR.out.mono ?_
        rintro e W2 ⟨rfl, hrow, hb⟩
        have hgw : w.heap.size < W1.heap.size := HR1.out.lt
        have hR2 := HR1.out.below hb HR1.out.lt
        have HN := Lib.hid (show Row W2 W1.heap.size 3 (CTab (k + 1 + 1) (iv (fun j => berk f (k + 1) j % p))) from by
          rw [← CTab_congr (k + 1 + 1) (iv (prV p (fun j => berk f k j % p) (fun j => sK f k j % p) (k + 1))) (iv (fun j => berk f (k + 1) j % p)) fun j hj => by unfold iv; rw [prV_berk (by omega) f k j hj]]
          exact hrow)
        have HR2 := Lib.hid hR2
        have HB2 := Lib.hid (HB1.out.trans (hb.mono HB1.out.size))
        refine hK.out _ _ ⟨hR2.cell (i := 0) rfl, hR2.cell (i := 1) rfl⟩ (fun hHeld => ?_)
        clear hK K hrow hb hR2 HPR HR1 HB1
        try simp only [Act.put, List.setIfInBounds_toArray, List.set_cons_zero, List.set_cons_succ]
        generalize W1.heap.size = g2 at hgw HN ⊢
        refine takeH (i := 7) (v := (.slice (some ⟨g2, 0, none⟩) (k + 2) (k + 2))) rfl rfl (by kernel_rfl) (by kernel_rfl) (by kernel_rfl) (fun _ _ _ h => h) (by rfl) (fun W hW => by (skip); go_simp) (by assumption) ?_
        simp only [List.setIfInBounds_toArray, List.set_cons_zero, List.set_cons_succ]
        refine wpAnyH_done (by kernel_rfl) ?_ _
        go_wp2_with fail
        go_roundw
        case rel => exact ⟨k + 1, g2, by first | rfl | trivial, by go_num, by omega, hgw, HN.out, HR2.out, HB2.out⟩
        case measure => simp [intOf]; omega
      · have hkm : k = m := by omega
        subst hkm
        have d1 : decide (k < k) = false := decide_eq_false (by omega)
        have hO := berkL_row (w.heap.size) (by omega) hL (by omega)
        have hlen : ((List.range (k + 1)).map fun j => berk f k j % p).length = k + 1 := by simp
        have hrev := reverse_any w.heap.size g (k + 1) ((List.range (k + 1)).map fun j => berk f k j % p) wr (by omega) (by rw [hlen]; exact hO)
        rw [hlen] at hrev
        have HREV := Lib.hid hrev
        have HB := Lib.hid hB
        clear hL hR hB HL5 HR5 HB5 hO hrev
        go_wp2_with fail
        refine HREV.out.mono ?_
        rintro e W2 ⟨rfl, hown, hgr⟩
        have hbe : Below w.heap.size w W2 := HB.out.grown hgr HB.out.size (fun q e => by injection e with e; omega)
        have hvec : Vec W2 (New w W2) (.slice (some ⟨g, 0, none⟩) (k + 1) (k + 1)) (k + 1) (polyF p f k) := by
          have h9 : OwnsI W2 w.heap.size (.slice (some ⟨g, 0, none⟩) (k + 1) (k + 1)) (((List.range (k + 1)).map fun j => berk f k j % p).reverse) := by
            unfold OwnsI
            rw [List.length_reverse, hlen]
            exact hown
          have h10 := h9.vec (S := New w W2) (fun g hg => h9.lt g hg)
          rw [List.length_reverse, hlen] at h10
          refine h10.congr fun j hj => ?_
          have hjr : j < (((List.range (k + 1)).map fun j => berk f k j % p).reverse).length := by simp; omega
          rw [List.getD_eq_getElem?_getD, List.getElem?_eq_getElem hjr]
          simp [polyF]
        have HE := Lib.hid hvec
        have HBE := Lib.hid hbe
        clear hown hgr hbe hvec HREV
        go_wp2_with fail
        go_ret2
        exact ⟨HBE.out, fun h => absurd rfl h, fun _ => ⟨_, rfl, HE.out⟩⟩
  · have hd2 : (x != 0) = true := by simpa using hx0
    clear ha hn hx
    go_enter Tryz.func25, Tryz.ntmps25
    go_wp2_with fail
    refine (HC _ (HA.out.on HB1.out)).out.mono ?_
    rintro e w4 ⟨rfl, hb4⟩
    have HB4 := Lib.hid (HB1.out.trans (hb4.mono HB1.out.size))
    clear hb4
    go_wp2
    go_ret2
    exact ⟨HB4.out, fun _ => rfl, fun h => absurd h hx0⟩
end Go.Proofs.YtinoomcboinokaaGreat
