/- LDrawn, LMix, LEchelon, LOwn, joined. -/
import Derived.Test.YtinoomcboinokaaGreatLKit
import Derived.Deep.AppendSrc
import Derived.Lib.AppendZeros

/- cayleylaw05: field; drawn. -/
namespace Go.Proofs.YtinoomcboinokaaGreat
open Go Go.RowKit Num

/-- The primes of the selection. -/
def fieldP : Nat → Nat
  | 0 => 2
  | 1 => 3
  | 2 => 5
  | 3 => 7
  | 4 => 97
  | _ => 9973
theorem fieldP_mod : ∀ k, modB (fieldP k : Nat) = true
  | 0 => modB_check (n := 2) 2 (by decide +kernel) (by decide +kernel) (by decide +kernel) (by decide +kernel)
  | 1 => modB_check (n := 3) 2 (by decide +kernel) (by decide +kernel) (by decide +kernel) (by decide +kernel)
  | 2 => modB_check (n := 5) 3 (by decide +kernel) (by decide +kernel) (by decide +kernel) (by decide +kernel)
  | 3 => modB_check (n := 7) 3 (by decide +kernel) (by decide +kernel) (by decide +kernel) (by decide +kernel)
  | 4 => modB_check (n := 97) 10 (by decide +kernel) (by decide +kernel) (by decide +kernel) (by decide +kernel)
  | _ + 5 => modB_check (n := 9973) 100 (by decide +kernel) (by decide +kernel) (by decide +kernel) (by decide +kernel)
def FieldP (w : World) (e : Ending) (w' : World) : Prop := (∃ q : Nat, e = .returned (.int .i64 q) ∧ modB (q : Int) = true) ∧ Below w.heap.size w w'
theorem owned_form {w : World} {B n : Nat} {e : TypeId} {v : Value} {xs : List Value} (h : w.ownsRow B e 1 v n xs) : ∃ A c, v = .slice A n c := by
  rcases h.2 with ⟨rfl, h0⟩ | ⟨g, cap, cur, rfl, _⟩
  · exact ⟨none, 0, by rw [h0]⟩
  · exact ⟨_, cap, rfl⟩
theorem butTurn {t : Nat} {w w' : World} (h : But t w.heap.size w w') (hs : w.heap.size ≤ w'.heap.size) : Turn (· = t) w w' := ⟨h.1.os, h.1.tape, h.1.output, hs, fun q hq hn => h.2 q hq hn⟩
theorem MTk.turn {S : Nat → Prop} {t : Nat} {w w' : World} {A : Option Addr} {c N k : Nat} {z : Nat → Int} (h : MTk w t A c N z k) (ht : Turn S w w') (hS : ∀ q, q ≤ t → ¬ S q) : MTk w' t A c N z k :=
  ⟨h.1.turn ht (hS t (Nat.le_refl _)), h.2.turn ht (fun q hq => hS q (Nat.le_of_lt hq))⟩
/-- Between two numbers. -/
structure DrI (W1 : World) (t : Nat) (A : Option Addr) (c N : Nat) (z : Nat → Int) (n : Nat) (p : Int) (v : Value) (k : Nat) (X : World) : Prop where
  tk : ∃ q, MTk X t A c N z q
  tu : Turn (· = t) W1 X
  own : ∃ f : Nat → Int, X.ownsRow W1.heap.size 3 1 v k (fstZ f k) ∧ InP p k f
/-- Between two rows. -/
structure DrO (w : World) (t : Nat) (A : Option Addr) (c N : Nat) (z : Nat → Int) (n : Nat) (p : Int) (k : Nat) (v : Value) (g cc : Nat → Nat) (F : Nat → Nat → Int) (X : World) : Prop where
  tk : ∃ q, MTk X t A c N z q
  tu : Turn (· = t) w X
  own : X.ownsRow w.heap.size 22 1 v k ((List.range k).map fun i => .slice (some ⟨g i, 0, none⟩) n (cc i))
  row : ∀ i, i < k → RowI X (g i) n (F i) ∧ n ≤ cc i ∧ w.heap.size ≤ g i ∧ InP p n (F i)
theorem DrI.start {w : World} {t : Nat} {A : Option Addr} {c N : Nat} {z : Nat → Int} {n : Nat} {p : Int} {q : Nat} (h : MTk w t A c N z q) : DrI w t A c N z n p (.slice none 0 0) 0 w :=
  ⟨⟨q, h⟩, Turn.refl _ _, fun _ => 0, World.ownsRow_nil _ _ _ _, fun j hj => absurd hj (by omega)⟩
theorem own_turn {S : Nat → Prop} {w w' : World} {base n size : Nat} {e : TypeId} {v : Value} {xs : List Value} (h : w.ownsRow base e size v n xs) (ht : Turn S w w') (hS : ∀ b, v.ownBlock = some b → ¬ S b) : w'.ownsRow base e size v n xs := by
  refine ⟨h.1, h.2.imp id ?_⟩
  rintro ⟨g', cap', cur, hv', hbg, hgg, hr⟩
  exact ⟨g', cap', cur, hv', hbg, ht.keep hgg (hS g' (by rw [hv']; rfl)), hr⟩
/-- A number has been taken and appended. -/
theorem DrI.next {W1 X X1 X2 : World} {t : Nat} {A : Option Addr} {c N : Nat} {z : Nat → Int} {n : Nat} {p x : Int} {v v1 : Value} {k q : Nat} {f : Nat → Int} (ht : t < W1.heap.size) (hu : Turn (· = t) W1 X) (hf : InP p k f) (hT : MTk X1 t A c N z q) (hb : Turn (· = t) X X1) (h0 : 0 ≤ x) (h1 : x < p) (hO : X.ownsRow W1.heap.size 3 1 v k (fstZ f k)) (o : Obj)
    (hown : X2.ownsRow W1.heap.size 3 1 v1 (k + 1) (fstZ f k ++ [.int .i64 x])) (hg : (X1.alloc o).grownBy X2 v.ownBlock) : DrI W1 t A c N z n p v1 (k + 1) X2 := by
  have hvb : ∀ b, v.ownBlock = some b → W1.heap.size ≤ b := fun b e => (hO.lt b e).1
  have ht2 : Turn (fun b => v.ownBlock = some b) X1 X2 := ⟨hg.os, hg.tape, hg.output, Nat.le_trans (by simp) hg.size, fun q hq hn => (hg.block q (by simp; omega) (fun e => hn e.symm)).trans (Below.heap_alloc _ _ _ hq)⟩
  refine ⟨⟨q, hT.turn ht2 fun b hb e => by have := hvb b e; omega⟩, ?_, fun j => if j < k then f j else x, ?_, fun j hj => ?_⟩
  · have h3 := hu.trans hb
    exact ⟨ht2.os.trans h3.os, ht2.tape.trans h3.tape, ht2.output.trans h3.output, Nat.le_trans h3.size ht2.size, fun b hb hn => (ht2.block b (Nat.lt_of_lt_of_le hb h3.size) (fun e => by have := hvb b e; omega)).trans (h3.block b hb hn)⟩
  · rw [fstZ_succ, if_neg (Nat.lt_irrefl k)]
    have : fstZ (fun j => if j < k then f j else x) k = fstZ f k := by
      unfold fstZ
      exact List.map_congr_left fun j hj => by
        show Value.int .i64 (if j < k then f j else x) = _
        rw [if_pos (List.mem_range.1 hj)]
    rw [this]; exact hown
  · dsimp only
    split
    · rename_i h; exact hf j h
    · exact ⟨h0, h1⟩
/-- A row has been appended. -/
theorem DrO.next {w X X1 X2 : World} {t : Nat} {A : Option Addr} {c N : Nat} {z : Nat → Int} {n : Nat} {p : Int} {v v1 rv : Value} {k : Nat} {g cc : Nat → Nat} {F : Nat → Nat → Int} (h : DrO w t A c N z n p k v g cc F X) (ht : t < w.heap.size) (hn : 1 ≤ n) (hI : DrI X t A c N z n p rv n X1) (o : Obj)
    (hown : X2.ownsRow w.heap.size 22 1 v1 (k + 1) ((List.range k).map (fun i => .slice (some ⟨g i, 0, none⟩) n (cc i)) ++ [rv])) (hg : (X1.alloc o).grownBy X2 v.ownBlock) : ∃ g' cc' F', DrO w t A c N z n p (k + 1) v1 g' cc' F' X2 := by
  obtain ⟨f, hro, hf⟩ := hI.own
  obtain ⟨Ar, cr, rfl, hcr, hgr⟩ := owns_rowI hro
  obtain ⟨gr, rfl, hgr1, hrow⟩ := hgr (by omega)
  have hX := h.tu.size
  have hX1 := hI.tu.size
  have hvb : ∀ b, v.ownBlock = some b → w.heap.size ≤ b ∧ b < X.heap.size := fun b e => h.own.lt b e
  have ht2 : Turn (fun b => v.ownBlock = some b) X1 X2 := ⟨hg.os, hg.tape, hg.output, Nat.le_trans (by simp) hg.size, fun q hq hn => (hg.block q (by simp; omega) (fun e => hn e.symm)).trans (Below.heap_alloc _ _ _ hq)⟩
  have hty : ∀ (b : Nat) (f : Nat → Int), RowI X b n f → v.ownBlock ≠ some b := fun b f hr e => by
    obtain ⟨cs, h1, _⟩ := hr
    rcases h.own.2 with ⟨rfl, _⟩ | ⟨g3, cap3, cur3, rfl, _, hgb, _⟩
    · cases e
    · injection e with e
      have e' : g3 = b := e
      rw [e', show X.heap[b]? = _ from h1] at hgb
      cases hgb
  obtain ⟨q, hq⟩ := hI.tk
  refine ⟨fun i => if i = k then gr else g i, fun i => if i = k then cr else cc i, fun i => if i = k then f else F i, ⟨q, hq.turn ht2 fun b hb e => by have := (hvb b e).1; omega⟩, ?_, ?_, fun i hi => ?_⟩
  · have h3 := h.tu.trans hI.tu
    exact ⟨ht2.os.trans h3.os, ht2.tape.trans h3.tape, ht2.output.trans h3.output, Nat.le_trans h3.size ht2.size, fun b hb hn => (ht2.block b (Nat.lt_of_lt_of_le hb h3.size) (fun e => by have := (hvb b e).1; omega)).trans (h3.block b hb hn)⟩
  · have hl : ((List.range k).map (fun i => Value.slice (some ⟨g i, 0, none⟩) n (cc i)) ++ [.slice (some ⟨gr, 0, none⟩) n cr]) = (List.range (k + 1)).map fun i => .slice (some ⟨if i = k then gr else g i, 0, none⟩) n (if i = k then cr else cc i) := by
      rw [List.range_succ, List.map_append, List.map_cons, List.map_nil, if_pos rfl, if_pos rfl]
      congr 1
      refine List.map_congr_left fun i hi => ?_
      have : i < k := List.mem_range.1 hi
      rw [if_neg (by omega), if_neg (by omega)]
    rw [hl] at hown
    exact hown
  · by_cases e : i = k
    · subst e
      rw [if_pos rfl, if_pos rfl, if_pos rfl]
      exact ⟨hrow.turn ht2 (fun e => by have := (hvb gr e).2; omega), hcr, by omega, hf⟩
    · rw [if_neg e, if_neg e, if_neg e]
      obtain ⟨h1, h2, h3, h4⟩ := h.row i (by omega)
      have hlt := h1.lt
      exact ⟨(h1.turn hI.tu (fun (e : g i = t) => by omega)).turn ht2 (hty _ _ h1), h2, h3, h4⟩
/-- Rows of residues are given; below only block t has turned. -/
def DrawnP (w : World) (t : Nat) (A : Option Addr) (c N : Nat) (z : Nat → Int) (m n : Nat) (p : Int) (e : Ending) (w' : World) : Prop :=
  ∃ r F q, e = .returned r ∧ Grid w' (New w w') r m (fun _ => n) F ∧ (∀ i, i < m → InP p n (F i)) ∧ MTk w' t A c N z q ∧ Turn (· = t) w w'
theorem DrO.done {w X : World} {t : Nat} {A : Option Addr} {c N : Nat} {z : Nat → Int} {n : Nat} {p : Int} {v : Value} {k : Nat} {g cc : Nat → Nat} {F : Nat → Nat → Int} (h : DrO w t A c N z n p k v g cc F X) : DrawnP w t A c N z k n p (.returned v) X := by
  obtain ⟨q, hq⟩ := h.tk
  refine ⟨v, F, q, rfl, ?_, fun i hi => (h.row i hi).2.2.2, hq, h.tu⟩
  rcases h.own.2 with ⟨rfl, hz⟩ | ⟨gb, cap, cur, rfl, hbase, hgbk, r1, r2, r3, r4⟩
  · rw [hz]; exact ⟨none, 0, rfl, Nat.le_refl _, fun h => absurd h (by omega)⟩
  · refine ⟨_, cap, rfl, r1, fun _ => ⟨gb, 0, rfl, ⟨hbase, (Array.getElem?_eq_some_iff.1 hgbk).1⟩, fun i hi => ?_⟩⟩
    have h1 : ((List.range k).map fun i => Value.slice (some ⟨g i, 0, none⟩) n (cc i))[i]? = some (.slice (some ⟨g i, 0, none⟩) n (cc i)) := by simp [hi]
    rw [← r4, List.getElem?_take_of_lt (by omega)] at h1
    obtain ⟨h2, h3, h4, _⟩ := h.row i hi
    exact ⟨_, by rw [Nat.zero_add]; exact Row.cell (show Row X gb 22 cur from hgbk) (by rw [← Array.getElem?_toList]; exact h1), h2.vec h3 _ ⟨h4, h2.lt⟩⟩

/-- The list is its own. -/
def DrawnO (w : World) (t : Nat) (A : Option Addr) (c N : Nat) (z : Nat → Int) (m n : Nat) (p : Int) (e : Ending) (w' : World) : Prop := ∃ v g cc F, e = .returned v ∧ DrO w t A c N z n p m v g cc F w'
set_option maxRecDepth 100000 in
set_option maxHeartbeats 4000000 in
theorem drawn_own (t : Nat) (A : Option Addr) (c N q0 : Nat) (z : Nat → Int) (p m n : Nat) (w : World) (hp : 2 ≤ p) (hp1 : p ≤ 1000000) (hm : m ≤ 1000) (hn0 : 1 ≤ n) (hn : n ≤ 1000) (hN : N ≤ 17592186044400) (hT : MTk w t A c N z q0) :
    Calls Tryz.prog 7 #[.pointer (some ⟨t, 0, none⟩), .int .i64 p, .int .i64 m, .int .i64 n] w (DrawnO w t A c N z m n p) := by
  obtain ⟨i0, hi, hz0, hz1, hz2⟩ := info_parts info3x
  obtain ⟨j0, hj0, hy0, hy1, hy2⟩ := info_parts infoSl
  have htl := hT.1.lt
  have H0 := Lib.hid (show DrO w t A c N z n p 0 (.slice none 0 0) (fun _ => 0) (fun _ => 0) (fun _ _ => 0) w from ⟨⟨q0, hT⟩, Turn.refl _ _, World.ownsRow_nil _ _ _ _, fun i h => absurd h (by omega)⟩)
  clear hT
  go_enter Tryz.func7, Tryz.ntmps7
  go_wp2
  go_loopw [9, 10] (fun v i wr => ∃ k g cc F, i = .int .i64 (k : Nat) ∧ k ≤ m ∧ Hid (DrO w t A c N z n p k v g cc F wr)) (fun _ i _ => m - (intOf i).toNat)
  case atStart => exact ⟨0, _, _, _, rfl, Nat.zero_le _, H0⟩
  case round =>
    obtain ⟨k, g, cc, F, rfl, hk, HO⟩ := hrel
    by_cases hlt : k < m
    · obtain ⟨q1, hq1⟩ := HO.out.tk
      obtain ⟨Av, cv, hv⟩ := owned_form HO.out.own
      subst hv
      have HS := Lib.hid (DrI.start (n := n) (p := (p : Int)) hq1)
      have htX : t < wr.heap.size := hq1.1.lt
      have hwX := HO.out.tu.size
      clear hq1
      go_wp2
      go_loopw [11, 12] (fun v i wr2 => ∃ j : Nat, i = .int .i64 j ∧ j ≤ n ∧ Hid (DrI wr t A c N z n p v j wr2)) (fun _ i _ => n - (intOf i).toNat)
      case atStart => exact ⟨0, rfl, Nat.zero_le _, HS⟩
      case round =>
        obtain ⟨j, rfl, hj, HI⟩ := hrel
        obtain ⟨f, hro, hf⟩ := HI.out.own
        obtain ⟨Ar, cr, hv⟩ := owned_form hro
        subst hv
        by_cases hlt2 : j < n
        · obtain ⟨q2, hq2⟩ := HI.out.tk
          have HTK := Lib.hid hq2
          have HRO := Lib.hid hro
          have HF := Lib.hid hf
          have HTC := Lib.hid (take_any t A c N z q2 p _ hN hp hp1 hq2)
          clear hq2 hro hf
          go_wp2_with fail
          refine HTC.out.mono ?_
          rintro e w2 hT2
          obtain ⟨x, q3, rfl, hx0, hx1, hT3, hB3, hs3⟩ := hT2.keep HTK.out
          have HT3 := Lib.hid hT3
          have HTU := Lib.hid (butTurn (hB3 _) (by omega))
          have hsI := HI.out.tu.size
          have HRO2 := Lib.hid (own_turn HRO.out HTU.out (fun b e (e2 : b = t) => by have := (HRO.out.lt b e).1; omega))
          have hs4 : wr.heap.size ≤ w2.heap.size := by omega
          clear hT2 hT3 hB3 hs3
          go_wp2_with (at_builtin; refine wpList_append_own _ rfl (.tmp 23) (.tmp 27) 22 rfl _ 3 i0 (.int .i64 0) 1 8 Tryz.underlying22 hi hz0 hz1 hz2 rfl (by decide) _ _ _ rfl (World.ownsRow.alloc HRO2.out _) ⟨w2.heap.size, 0, none⟩ 1 1 [.int .i64 x] rfl rfl (cell_one_new _ _ _) (by simp [Value.oneCell']) (by unfold maxLen; omega) (by omega) (by simp; omega) ?_; intro v1 w3 hown hgrow _; obtain ⟨g8, c8, rfl⟩ := ownsRow_succ hown; have HNX := Lib.hid (DrI.next (n := n) htX HI.out.tu HF.out HT3.out HTU.out hx0 hx1 HRO.out _ hown hgrow); clear hown hgrow)
          go_roundw
          case rel => exact ⟨j + 1, by go_num, by omega, HNX⟩
          case measure => simp [intOf]; omega
        · obtain rfl : j = n := by omega
          have HII := Lib.hid HI.out
          have hsI := HI.out.tu.size
          have HOW := Lib.hid (own_turn HO.out.own HI.out.tu (fun b e (e2 : b = t) => by have := (HO.out.own.lt b e).1; omega))
          clear hro hf
          go_wp2_with (at_builtin; refine wpList_append_own _ rfl (.tmp 29) (.tmp 31) 25 rfl w.heap.size 22 j0 (.slice none 0 0) 1 24 Tryz.underlying25 hj0 hy0 hy1 hy2 rfl (by decide) _ _ _ rfl (World.ownsRow.alloc HOW.out _) ⟨_, 0, none⟩ 1 1 [.slice Ar j cr] rfl rfl (cell_one_new _ _ _) (by simp [Value.oneCell']) (by unfold maxLen; omega) (by omega) (by simp; omega) ?_; intro v1 w3 hown hgrow _; obtain ⟨g8, c8, rfl⟩ := ownsRow_succ hown; have HNX := Lib.hid (HO.out.next htl hn0 HII.out _ hown hgrow); clear hown hgrow)
          obtain ⟨g', cc', F', hN2⟩ := HNX.out
          go_roundw
          case rel => exact ⟨k + 1, g', cc', F', by go_num, by omega, Lib.hid hN2⟩
          case measure => simp [intOf]; omega
    · obtain rfl : k = m := by omega
      go_wp2
      go_ret
      exact ⟨_, _, _, _, rfl, HO.out⟩
theorem drawn_any (t : Nat) (A : Option Addr) (c N q0 : Nat) (z : Nat → Int) (p m n : Nat) (w : World) (hp : 2 ≤ p) (hp1 : p ≤ 1000000) (hm : m ≤ 1000) (hn0 : 1 ≤ n) (hn : n ≤ 1000) (hN : N ≤ 17592186044400) (hT : MTk w t A c N z q0) :
    Calls Tryz.prog 7 #[.pointer (some ⟨t, 0, none⟩), .int .i64 p, .int .i64 m, .int .i64 n] w (DrawnP w t A c N z m n p) := by
  refine (drawn_own t A c N q0 z p m n w hp hp1 hm hn0 hn hN hT).mono ?_
  rintro e w' ⟨v, g, cc, F, rfl, h⟩
  exact h.done
end Go.Proofs.YtinoomcboinokaaGreat

/- cayleylaw05: mix. -/
namespace Go.Proofs.YtinoomcboinokaaGreat
open Go Go.RowKit Num

/-- A combination of the first rows. -/
def mixF (p : Int) (x : Nat → Int) (F : Nat → Nat → Int) : Nat → Nat → Int
  | 0, _ => 0
  | i + 1, j => (mixF p x F i j + x i * F i j) % p
theorem mixF_congr {p : Int} {x y : Nat → Int} {F : Nat → Nat → Int} : ∀ {k : Nat}, (∀ i, i < k → x i = y i) → ∀ j, mixF p x F k j = mixF p y F k j
  | 0, _, _ => rfl
  | k + 1, h, j => by
    have ih := mixF_congr (p := p) (F := F) (k := k) (fun i hi => h i (by omega)) j
    simp only [mixF, ih, h k (by omega)]
theorem mixF_in {p : Int} (hp : 0 < p) (x : Nat → Int) (F : Nat → Nat → Int) (k n : Nat) : InP p n (mixF p x F k) := fun j _ => by
  cases k with
  | zero => exact ⟨Int.le_refl _, hp⟩
  | succ k => exact ⟨Int.emod_nonneg _ (by omega), Int.emod_lt_of_pos _ hp⟩
/-- Part of a round. -/
def mixTo (p : Int) (x : Nat → Int) (F : Nat → Nat → Int) (i k j : Nat) : Int := if j < k then mixF p x F (i + 1) j else mixF p x F i j
theorem mixTo_step (p : Int) (x : Nat → Int) (F : Nat → Nat → Int) (i k : Nat) : (fun j => if j = k then (mixF p x F i k + x i * F i k) % p else mixTo p x F i k j) = mixTo p x F i (k + 1) := by
  funext j
  unfold mixTo
  by_cases e : j = k
  · subst e; rw [if_pos rfl, if_pos (by omega)]; rfl
  · rw [if_neg e]
    by_cases h : j < k
    · rw [if_pos h, if_pos (by omega)]
    · rw [if_neg h, if_neg (by omega)]
/-- Between two rows. -/
structure MxO (w1 : World) (t g0 : Nat) (A : Option Addr) (c N : Nat) (z : Nat → Int) (n : Nat) (f : Nat → Int) (X : World) : Prop where
  tk : ∃ q, MTk X t A c N z q
  tu : Turn (fun b => b = t ∨ b = g0) w1 X
  row : RowI X g0 n f
/-- A combination of rows is given; below only block t has turned. -/
def MixP (w : World) (t : Nat) (A : Option Addr) (c N : Nat) (z : Nat → Int) (m n : Nat) (p : Int) (F : Nat → Nat → Int) (e : Ending) (w' : World) : Prop :=
  ∃ r x q, e = .returned r ∧ Vec w' (New w w') r n (mixF p x F m) ∧ MTk w' t A c N z q ∧ Turn (· = t) w w'

end Go.Proofs.YtinoomcboinokaaGreat
namespace Go.Proofs.YtinoomcboinokaaGreat
open Go Go.RowKit Num
/-- Rows with pivots, ascending. -/
structure EchF (p : Int) (m n : Nat) (F : Nat → Nat → Int) (pv : Nat → Nat) : Prop where
  below : ∀ i, i < m → pv i < n
  lead : ∀ i j, i < m → j < pv i → F i j = 0
  one : ∀ i, i < m → F i (pv i) = 1
  other : ∀ i k, i < m → k < m → k ≠ i → F k (pv i) = 0
  low : ∀ i, i < m → InP p n (F i)
  up : ∀ i, i + 1 < m → pv i < pv (i + 1)
/-- The last pivot. -/
def lastP (pv : Nat → Nat) : Nat → Int
  | 0 => -1
  | i + 1 => pv i
theorem EchF.last {p : Int} {m n : Nat} {F : Nat → Nat → Int} {pv : Nat → Nat} (h : EchF p m n F pv) {i : Nat} (hi : i < m) : lastP pv i < pv i := by
  cases i with
  | zero => show (-1 : Int) < _; omega
  | succ i =>
    have := h.up i hi
    show (pv i : Int) < _
    omega
end Go.Proofs.YtinoomcboinokaaGreat
namespace Go.Proofs.YtinoomcboinokaaGreat
open Go Go.RowKit Num
/-- A copy of a list of slices has been made. -/
def OwnRet (m : Nat) (vals : List Value) (w : World) (e : Ending) (w' : World) : Prop := ∃ r, e = .returned r ∧ w'.ownsRow w.heap.size 22 1 r m vals ∧ Below w.heap.size w w'
end Go.Proofs.YtinoomcboinokaaGreat