/- cayleylaw05.LinearBasis. -/
import Derived.Test.YtinoomcboinokaaGreatLBasM
namespace Go.Proofs.YtinoomcboinokaaGreat
open Go Go.RowKit Num

/-- Blocks behind the Takers. -/
def Far (u : Nat) (X : World) (b : Nat) : Prop := u < b ∧ b < X.heap.size
theorem grid_far {u : Nat} {X Y : World} {v : Value} {m : Nat} {n : Nat → Nat} {f : Nat → Nat → Int} (h : Grid X (Far u X) v m n f) (ht : Turn (· = u) X Y) : Grid Y (Far u Y) v m n f :=
  h.keep (fun b hb => ⟨hb.1, Nat.lt_of_lt_of_le hb.2 ht.size⟩) (fun p hp => by unfold World.cell?; rw [ht.block p.block hp.2 (fun e => by have := hp.1; omega)]) (fun _ _ => rfl) (fun _ _ _ _ => rfl)
theorem vec_far {u : Nat} {X Y : World} {v : Value} {n : Nat} {f : Nat → Int} (h : Vec X (Far u X) v n f) (ht : Turn (· = u) X Y) : Vec Y (Far u Y) v n f :=
  h.keep (fun b hb => ⟨hb.1, Nat.lt_of_lt_of_le hb.2 ht.size⟩) (fun p hp => by unfold World.cell?; rw [ht.block p.block hp.2 (fun e => by have := hp.1; omega)]) (fun _ _ => rfl)
theorem taker_new (w : World) (A : Option Addr) (c N : Nat) (z : Nat → Int) (hv : Vec w (· < w.heap.size) (.slice A N c) N z) : MTk (w.alloc (.cells #[.slice A N c, .int .i64 0] 29)) w.heap.size A c N z 0 :=
  ⟨row_new rfl _ _, hv.below (fun _ h => h) ((Below.refl _ _).alloc (Nat.le_refl _) _)⟩
theorem vec_on {w w' : World} {v : Value} {n : Nat} {f : Nat → Int} (h : Vec w (· < w.heap.size) v n f) (hb : Below w.heap.size w w') : Vec w' (· < w'.heap.size) v n f := (h.below (fun _ h => h) hb).more fun _ h => Nat.lt_of_lt_of_le h hb.size

theorem below_turn {w X Y : World} {u : Nat} (h : Below w.heap.size w X) (ht : Turn (· = u) X Y) (hw : w.heap.size ≤ u) : Below w.heap.size w Y :=
  ⟨ht.os.trans h.os, ht.tape.trans h.tape, ht.output.trans h.output, Nat.le_trans h.size ht.size, fun b hb => (ht.block b (Nat.lt_of_lt_of_le hb h.size) (fun e => by omega)).trans (h.block b hb)⟩
theorem far_calls {u : Nat} {X Y : World} {v : Value} {m : Nat} {n : Nat → Nat} {f : Nat → Nat → Int} (h : Grid X (Far u X) v m n f) (hb : Below X.heap.size X Y) : Grid Y (Far u Y) v m n f := (h.below (fun _ h => h.2) hb).more fun _ h => ⟨h.1, Nat.lt_of_lt_of_le h.2 hb.size⟩
theorem far_drew {u : Nat} {X : World} {v : Value} {m : Nat} {n : Nat → Nat} {f : Nat → Nat → Int} (h : Grid X (Far u X) v m n f) (k : Nat) : Grid (X.drewN k) (Far u (X.drewN k)) v m n f := h.keep (fun _ h => h) (fun _ _ => rfl) (fun _ _ => rfl) (fun _ _ _ _ => rfl)
theorem gridB_self (m : Nat) (n : Nat → Nat) (f : Nat → Nat → Int) : gridB m n f f = true := by simp [gridB, eqB]
/-- What stands through the law. -/
structure Ctx (w : World) (u : Nat) (A2 : Option Addr) (c2 N2 : Nat) (z2 : Nat → Int) (v : Value) (m n : Nat) (F : Nat → Nat → Int) (X : World) : Prop where
  g : Grid X (Far u X) v m (fun _ => n) F
  tk : ∃ q, MTk X u A2 c2 N2 z2 q
  b : Below w.heap.size w X
theorem Ctx.calls {w X Y : World} {u : Nat} {A2 : Option Addr} {c2 N2 : Nat} {z2 : Nat → Int} {v : Value} {m n : Nat} {F : Nat → Nat → Int} (h : Ctx w u A2 c2 N2 z2 v m n F X) (hb : Below X.heap.size X Y) : Ctx w u A2 c2 N2 z2 v m n F Y :=
  ⟨far_calls h.g hb, h.tk.imp fun _ hq => hq.but hb hq.1.lt, h.b.trans (hb.mono h.b.size)⟩
theorem Ctx.turns {w X Y : World} {u : Nat} {A2 : Option Addr} {c2 N2 : Nat} {z2 : Nat → Int} {v : Value} {m n q : Nat} {F : Nat → Nat → Int} (h : Ctx w u A2 c2 N2 z2 v m n F X) (hw : w.heap.size ≤ u) (ht : Turn (· = u) X Y) (hq : MTk Y u A2 c2 N2 z2 q) : Ctx w u A2 c2 N2 z2 v m n F Y :=
  ⟨grid_far h.g ht, ⟨q, hq⟩, below_turn h.b ht hw⟩
theorem Ctx.drew {w X : World} {u : Nat} {A2 : Option Addr} {c2 N2 : Nat} {z2 : Nat → Int} {v : Value} {m n : Nat} {F : Nat → Nat → Int} (h : Ctx w u A2 c2 N2 z2 v m n F X) (k : Nat) : Ctx w u A2 c2 N2 z2 v m n F (X.drewN k) :=
  ⟨far_drew h.g k, h.tk.imp fun _ hq => ⟨hq.1, hq.2.keep (fun _ h => h) (fun _ _ => rfl) (fun _ _ => rfl)⟩, ⟨h.b.os, h.b.tape, h.b.output, h.b.size, h.b.block⟩⟩

/-- Between two pairs of rows of the other list. -/
structure OtI (W7 : World) (u : Nat) (A2 : Option Addr) (c2 N2 : Nat) (z2 : Nat → Int) (p : Int) (m n : Nat) (F : Nat → Nat → Int) (k : Nat) (v : Value) (rs : Nat → Value) (G : Nat → Nat → Int) (X : World) : Prop where
  tk : ∃ q, MTk X u A2 c2 N2 z2 q
  tu : Turn (· = u) W7 X
  own : X.ownsRow W7.heap.size 22 1 v (2 * k) ((List.range (2 * k)).map rs)
  row : ∀ j, j < 2 * k → Vec X (fun b => Far u X b ∧ v.ownBlock ≠ some b) (rs j) n (G j)
  sp : ∀ j, j < 2 * k → SpL p (rowsL n F m) (wideF n (G j))
  cov : ∀ i, i < m → m - k ≤ i → ∃ j, j < 2 * k ∧ ∀ x, x < n → G j x = F i x
theorem OtI.drew {W7 : World} {u : Nat} {A2 : Option Addr} {c2 N2 : Nat} {z2 : Nat → Int} {p : Int} {m n : Nat} {F : Nat → Nat → Int} {k : Nat} {v : Value} {rs : Nat → Value} {G : Nat → Nat → Int} {X : World} (h : OtI W7 u A2 c2 N2 z2 p m n F k v rs G X) : OtI W7 u A2 c2 N2 z2 p m n F k v rs G X.drew :=
  ⟨h.tk.imp fun _ hq => ⟨hq.1, hq.2.keep (fun _ h => h) (fun _ _ => rfl) (fun _ _ => rfl)⟩, ⟨h.tu.os, h.tu.tape, h.tu.output, h.tu.size, h.tu.block⟩, h.own, fun j hj => (h.row j hj).keep (fun _ h => h) (fun _ _ => rfl) (fun _ _ => rfl), h.sp, h.cov⟩
theorem Ctx.drew1 {w X : World} {u : Nat} {A2 : Option Addr} {c2 N2 : Nat} {z2 : Nat → Int} {v : Value} {m n : Nat} {F : Nat → Nat → Int} (h : Ctx w u A2 c2 N2 z2 v m n F X) : Below w.heap.size w X.drew := ⟨h.b.os, h.b.tape, h.b.output, h.b.size, h.b.block⟩
theorem cell_two_new (w : World) (T : TypeId) (a b : Value) (j : Nat) (u : Value) (h : [a, b][j]? = some u) : (w.alloc (.cells #[a, b] T)).cell? ((⟨w.heap.size, 0, none⟩ : Addr).add j) = some u := by
  have hr := row_new (W := w) rfl T #[a, b]
  rw [Addr.add_lit, Nat.zero_add]
  exact hr.cell (by rw [← Array.getElem?_toList]; exact h)
theorem OtI.next {W7 X X1 X3 : World} {u : Nat} {A2 : Option Addr} {c2 N2 : Nat} {z2 : Nat → Int} {p : Int} {m n : Nat} {F : Nat → Nat → Int} {k q i : Nat} {v v3 ai r : Value} {x : Nat → Int} {rs : Nat → Value} {G : Nat → Nat → Int} (h : OtI W7 u A2 c2 N2 z2 p m n F k v rs G X) (hu : u < W7.heap.size) (hi : i + 1 + k = m) (hai : Vec W7 (Far u W7) ai n (F i))
    (hr : Vec X1 (New X X1) r n (mixF p x F m)) (hq : MTk X1 u A2 c2 N2 z2 q) (ht : Turn (· = u) X X1) (o : Obj) (hown : X3.ownsRow W7.heap.size 22 1 v3 (2 * k + 2) ((List.range (2 * k)).map rs ++ [ai, r])) (hg : (X1.alloc o).grownBy X3 v.ownBlock) (hv3 : v3.ownBlock = v.ownBlock ∨ v3.ownBlock = some (X1.alloc o).heap.size) :
    ∃ rs' G', OtI W7 u A2 c2 N2 z2 p m n F (k + 1) v3 rs' G' X3 := by
  have hvb : ∀ b, v.ownBlock = some b → W7.heap.size ≤ b ∧ b < X.heap.size := fun b e => h.own.lt b e
  have hvb3 : ∀ b, v3.ownBlock = some b → W7.heap.size ≤ b ∧ b < X3.heap.size := fun b e => hown.lt b e
  have ht2 : Turn (fun b => v.ownBlock = some b) X1 X3 := ⟨hg.os, hg.tape, hg.output, Nat.le_trans (by simp) hg.size, fun q hq hn => (hg.block q (by simp; omega) (fun e => hn e.symm)).trans (Below.heap_alloc _ _ _ hq)⟩
  have hz : (X1.alloc o).heap.size = X1.heap.size + 1 := by simp
  have hs0 := h.tu.size
  have hs1 := ht.size
  have hs3 := ht2.size
  have h3 := h.tu.trans ht
  have htu : Turn (· = u) W7 X3 := ⟨ht2.os.trans h3.os, ht2.tape.trans h3.tape, ht2.output.trans h3.output, Nat.le_trans h3.size ht2.size, fun b hb hn => (ht2.block b (Nat.lt_of_lt_of_le hb h3.size) (fun e => by have := (hvb b e).1; omega)).trans (h3.block b hb hn)⟩
  refine ⟨fun j => if j = 2 * k then ai else if j = 2 * k + 1 then r else rs j, fun j => if j = 2 * k then F i else if j = 2 * k + 1 then mixF p x F m else G j, ⟨q, hq.turn ht2 fun b hb e => by have := (hvb b e).1; omega⟩, htu, ?_, fun j hj => ?_, fun j hj => ?_, fun a ha hka => ?_⟩
  · have hl : (List.range (2 * k)).map rs ++ [ai, r] = (List.range (2 * (k + 1))).map fun j => if j = 2 * k then ai else if j = 2 * k + 1 then r else rs j := by
      rw [show 2 * (k + 1) = 2 * k + 1 + 1 by omega, List.range_succ, List.range_succ, List.map_append, List.map_append, List.map_cons, List.map_nil, List.map_cons, List.map_nil, if_pos rfl, if_neg (by omega), if_pos rfl, List.append_assoc]
      congr 1
      refine List.map_congr_left fun j hj => ?_
      have : j < 2 * k := List.mem_range.1 hj
      rw [if_neg (by omega), if_neg (by omega)]
    rw [hl] at hown
    exact hown
  · by_cases e : j = 2 * k
    · rw [if_pos e, if_pos e]
      refine (hai.turn htu (fun b hb (e : b = u) => by have := hb.1; omega)).more fun b hb => ⟨⟨hb.1, ?_⟩, fun e => ?_⟩
      · have := hb.2; have := htu.size; omega
      · have := (hvb3 b e).1; have := hb.2; omega
    · by_cases e2 : j = 2 * k + 1
      · rw [if_neg e, if_neg e, if_pos e2, if_pos e2]
        refine (hr.turn ht2 (fun b hb e => by have := hb.1; have := (hvb b e).2; omega)).more fun b hb => ⟨⟨?_, ?_⟩, fun e => ?_⟩
        · have := hb.1; omega
        · have := hb.2; omega
        · have h1 := hb.1
          have h2 := hb.2
          rcases hv3 with e3 | e3
          · have := (hvb b (e3.symm.trans e)).2; omega
          · rw [e3] at e
            injection e with e
            omega
      · rw [if_neg e, if_neg e, if_neg e2, if_neg e2]
        refine (((h.row j (by omega)).turn ht (fun b hb (e : b = u) => by have := hb.1.1; omega)).turn ht2 (fun b hb e => hb.2 e)).more fun b hb => ⟨⟨hb.1.1, ?_⟩, fun e => ?_⟩
        · have := hb.1.2; omega
        · have h2 := hb.1.2
          rcases hv3 with e3 | e3
          · exact hb.2 (e3.symm.trans e)
          · rw [e3] at e
            injection e with e
            omega
  · by_cases e : j = 2 * k
    · rw [if_pos e]
      exact row_span (by omega) fun _ _ => rfl
    · by_cases e2 : j = 2 * k + 1
      · rw [if_neg e, if_pos e2]
        exact mix_span x m (Nat.le_refl _)
      · rw [if_neg e, if_neg e2]
        exact h.sp j (by omega)
  · by_cases e : a = i
    · exact ⟨2 * k, by omega, fun x _ => by rw [if_pos rfl, e]⟩
    · obtain ⟨j, hj, hx⟩ := h.cov a ha (by omega)
      exact ⟨j, by omega, fun x hx' => by rw [if_neg (by omega), if_neg (by omega)]; exact hx x hx'⟩
/-- The other list, read. -/
theorem OtI.done {W7 X : World} {u : Nat} {A2 : Option Addr} {c2 N2 : Nat} {z2 : Nat → Int} {p : Int} {m n : Nat} {F : Nat → Nat → Int} {k : Nat} {v : Value} {rs : Nat → Value} {G : Nat → Nat → Int} (h : OtI W7 u A2 c2 N2 z2 p m n F k v rs G X) (hu : u < W7.heap.size) : Grid X (Far u X) v (2 * k) (fun _ => n) G := by
  rcases h.own.2 with ⟨rfl, hz⟩ | ⟨gb, cap, cur, rfl, hbase, hgbk, r1, r2, r3, r4⟩
  · exact ⟨none, 0, by rw [hz], by omega, fun h => absurd h (by omega)⟩
  · refine ⟨_, cap, rfl, r1, fun _ => ⟨gb, 0, rfl, ⟨by omega, (Array.getElem?_eq_some_iff.1 hgbk).1⟩, fun i hi => ?_⟩⟩
    have h1 : ((List.range (2 * k)).map rs)[i]? = some (rs i) := by simp [hi]
    rw [← r4, List.getElem?_take_of_lt (by omega)] at h1
    exact ⟨_, by rw [Nat.zero_add]; exact Row.cell (show Row X gb 22 cur from hgbk) (by rw [← Array.getElem?_toList]; exact h1), (h.row i hi).more fun b hb => hb.1⟩

/-- A copy of a grid's rows has been made. -/
def OwnG (S : Nat → Prop) (m n : Nat) (F : Nat → Nat → Int) (X : World) (e : Ending) (X' : World) : Prop := ∃ r rs, e = .returned r ∧ X'.ownsRow X.heap.size 22 1 r m ((List.range m).map rs) ∧ (∀ i, i < m → Vec X' S (rs i) n (F i)) ∧ Below X.heap.size X X'
/-- Behind the copy and the last row's list. -/
structure Mid (Y : World) (m n : Nat) (F : Nat → Nat → Int) (f0 : Nat → Int) (bs : Nat) (ro : Value) (rs : Nat → Value) (bn : Nat) (v0 : Value) (Z : World) : Prop where
  own : Z.ownsRow bs 22 1 ro m ((List.range m).map rs)
  bs0 : Y.heap.size ≤ bs
  bs1 : bs ≤ Z.heap.size
  be : Below Y.heap.size Y Z
  cell : Z.cell? ⟨bn, 0, none⟩ = some v0
  row : ∀ i, i < m → Vec Z (· < Y.heap.size) (rs i) n (F i)
  last : Vec Z (· < Y.heap.size) v0 n f0
theorem Mid.next {Y Z Z2 : World} {m n : Nat} {F : Nat → Nat → Int} {f0 : Nat → Int} {bs bn : Nat} {ro v0 v' : Value} {rs : Nat → Value} (h : Mid Y m n F f0 bs ro rs bn v0 Z) (hown : Z2.ownsRow bs 22 1 v' (m + 1) ((List.range m).map rs ++ [v0])) (hg : Z.grownBy Z2 ro.ownBlock) :
    Grid Z2 (· < Z2.heap.size) v' (m + 1) (fun _ => n) (fun i => if i < m then F i else f0) ∧ Below Y.heap.size Y Z2 := by
  have hb := h.be.grown hg (h.be.size) (fun q hq => Nat.le_trans h.bs0 (h.own.lt q hq).1)
  have hz := h.be.size
  have hvk : ∀ (v : Value) (f : Nat → Int), Vec Z (· < Y.heap.size) v n f → Vec Z2 (· < Z2.heap.size) v n f := fun v f hv =>
    hv.keep (fun b hb' => by have : b < Y.heap.size := hb'; have := hb.size; show b < Z2.heap.size; omega) (fun p hp => by
      have hp' : p.block < Y.heap.size := hp
      unfold World.cell?; rw [hg.block p.block (by omega) (fun e => by have := (h.own.lt _ e.symm).1; have := h.bs0; omega)]) (fun _ _ => rfl)
  refine ⟨?_, hb⟩
  rcases hown.2 with ⟨rfl, hz0⟩ | ⟨gb, cap, cur, rfl, hbase, hgbk, r1, r2, r3, r4⟩
  · exact absurd hz0 (by omega)
  · refine ⟨_, cap, rfl, r1, fun _ => ⟨gb, 0, rfl, (Array.getElem?_eq_some_iff.1 hgbk).1, fun i hi => ?_⟩⟩
    have h1 : ((List.range m).map rs ++ [v0])[i]? = some (if i < m then rs i else v0) := by
      by_cases e : i < m
      · rw [if_pos e, List.getElem?_append_left (by simpa using e)]; simp [e]
      · obtain rfl : i = m := by omega
        rw [if_neg (Nat.lt_irrefl _), List.getElem?_append_right (by simp)]; simp
    rw [← r4, List.getElem?_take_of_lt (by omega)] at h1
    refine ⟨_, by rw [Nat.zero_add]; exact Row.cell (show Row Z2 gb 22 cur from hgbk) (by rw [← Array.getElem?_toList]; exact h1), ?_⟩
    by_cases e : i < m
    · dsimp only; rw [if_pos e, if_pos e]; exact hvk _ _ (h.row i e)
    · dsimp only; rw [if_neg e, if_neg e]; exact hvk _ _ h.last
theorem mid_own {Y X' : World} {m n : Nat} {F : Nat → Nat → Int} {f0 : Nat → Int} {r v0 : Value} {rs : Nat → Value} (ho : X'.ownsRow Y.heap.size 22 1 r m ((List.range m).map rs)) (hr : ∀ i, i < m → Vec X' (· < Y.heap.size) (rs i) n (F i)) (hb : Below Y.heap.size Y X') (hv : Vec Y (· < Y.heap.size) v0 n f0) :
    Mid Y m n F f0 Y.heap.size r rs X'.heap.size v0 (X'.alloc (.cells #[v0] 22)) := by
  have ha := (Below.refl X'.heap.size X').alloc (Nat.le_refl _) (.cells #[v0] 22)
  have hz := hb.size
  have hl : ∀ b, b < Y.heap.size → b < X'.heap.size := fun b h => Nat.lt_of_lt_of_le h hz
  exact ⟨ho.alloc _, Nat.le_refl _, by simp; omega, hb.alloc hz _, (row_new rfl _ _).cell rfl, fun i hi => (hr i hi).below hl ha, (hv.below (fun _ h => h) hb).below hl ha⟩
theorem mid_new {Y X' : World} {m n : Nat} {F : Nat → Nat → Int} {f0 : Nat → Int} {r v0 : Value} {rs : Nat → Value} (ho : X'.ownsRow (Y.alloc (.cells #[v0] 22)).heap.size 22 1 r m ((List.range m).map rs)) (hr : ∀ i, i < m → Vec X' (· < Y.heap.size) (rs i) n (F i)) (hb : Below (Y.alloc (.cells #[v0] 22)).heap.size (Y.alloc (.cells #[v0] 22)) X') (hv : Vec Y (· < Y.heap.size) v0 n f0) :
    Mid Y m n F f0 (Y.alloc (.cells #[v0] 22)).heap.size r rs Y.heap.size v0 X' := by
  have ha := (Below.refl Y.heap.size Y).alloc (Nat.le_refl _) (.cells #[v0] 22)
  have hz : (Y.alloc (.cells #[v0] 22)).heap.size = Y.heap.size + 1 := by simp
  have hb2 : Below Y.heap.size Y X' := ha.trans (hb.mono (by omega))
  exact ⟨ho, by omega, hb.size, hb2, (hb.cell (p := ⟨Y.heap.size, 0, none⟩) (by rw [hz]; exact Nat.lt_succ_self _)).trans ((row_new (W := Y) rfl _ _).cell rfl), hr, hv.below (fun _ h => h) hb2⟩
theorem beq_nat (a b : Nat) : (decide (a = b) == ((a : Int) == (b : Int))) = true := by
  by_cases h : a = b
  · subst h; simp
  · have h2 : ¬ (a : Int) = b := by omega
    simp [h, h2]
theorem cell_one_at {w : World} {b : Nat} {a : Value} (h : w.cell? ⟨b, 0, none⟩ = some a) (j : Nat) (u : Value) (hj : [a][j]? = some u) : w.cell? ((⟨b, 0, none⟩ : Addr).add j) = some u := by
  cases j with
  | zero => rw [Addr.add_lit, ← hj]; exact h
  | succ j => simp at hj

end Go.Proofs.YtinoomcboinokaaGreat