/- cayleylaw05.LinearBasis. -/
import Derived.Test.YtanhgkpldjpkoaaLBasM
namespace Go.Proofs.Ytanhgkpldjpkoaa
open Go Go.RowKit Num

/-- Blocks behind the Takers. -/
def Far (u : Nat) (X : World) (b : Nat) : Prop := u < b ∧ b < X.heap.size
theorem grid_far {u : Nat} {X Y : World} {v : Value} {m : Nat} {n : Nat → Nat} {f : Nat → Nat → Int} (h : Grid X (Far u X) v m n f) (ht : Turn (· = u) X Y) : Grid Y (Far u Y) v m n f :=
  h.keep (fun b hb => ⟨hb.1, Nat.lt_of_lt_of_le hb.2 ht.size⟩) (fun p hp => by unfold World.cell?; rw [ht.block p.block hp.2 (fun e => by have := hp.1; omega)]) (fun _ _ => rfl) (fun _ _ _ _ => rfl)
theorem vec_far {u : Nat} {X Y : World} {v : Value} {n : Nat} {f : Nat → Int} (h : Vec X (Far u X) v n f) (ht : Turn (· = u) X Y) : Vec Y (Far u Y) v n f :=
  h.keep (fun b hb => ⟨hb.1, Nat.lt_of_lt_of_le hb.2 ht.size⟩) (fun p hp => by unfold World.cell?; rw [ht.block p.block hp.2 (fun e => by have := hp.1; omega)]) (fun _ _ => rfl)
theorem taker_new (w : World) (A : Option Addr) (c N : Nat) (z : Nat → Int) (hv : Vec w (· < w.heap.size) (.slice A N c) N z) : MTk (w.alloc (.cells #[.slice A N c, .int .i64 0] 28)) w.heap.size A c N z 0 :=
  ⟨row_new rfl _ _, hv.below (fun _ h => h) ((Below.refl _ _).alloc (Nat.le_refl _) _)⟩
theorem vec_on {w w' : World} {v : Value} {n : Nat} {f : Nat → Int} (h : Vec w (· < w.heap.size) v n f) (hb : Below w.heap.size w w') : Vec w' (· < w'.heap.size) v n f := (h.below (fun _ h => h) hb).more fun _ h => Nat.lt_of_lt_of_le h hb.size

theorem below_turn {w X Y : World} {u : Nat} (h : Below w.heap.size w X) (ht : Turn (· = u) X Y) (hw : w.heap.size ≤ u) : Below w.heap.size w Y :=
  ⟨ht.os.trans h.os, ht.tape.trans h.tape, ht.output.trans h.output, Nat.le_trans h.size ht.size, fun b hb => (ht.block b (Nat.lt_of_lt_of_le hb h.size) (fun e => by omega)).trans (h.block b hb)⟩
theorem far_calls {u : Nat} {X Y : World} {v : Value} {m : Nat} {n : Nat → Nat} {f : Nat → Nat → Int} (h : Grid X (Far u X) v m n f) (hb : Below X.heap.size X Y) : Grid Y (Far u Y) v m n f := (h.below (fun _ h => h.2) hb).more fun _ h => ⟨h.1, Nat.lt_of_lt_of_le h.2 hb.size⟩
theorem far_drew {u : Nat} {X : World} {v : Value} {m : Nat} {n : Nat → Nat} {f : Nat → Nat → Int} (h : Grid X (Far u X) v m n f) (k : Nat) : Grid (X.drewN k) (Far u (X.drewN k)) v m n f := h.keep (fun _ h => h) (fun _ _ => rfl) (fun _ _ => rfl) (fun _ _ _ _ => rfl)
theorem gridB_self (m : Nat) (n : Nat → Nat) (f : Nat → Nat → Int) : gridB m n f f = true := by simp [gridB, eqB]
/-- What stands through the law. -/
structure Ctx (w : World) (u : Nat) (A2 : Option Addr) (c2 N2 : Nat) (z2 : Nat → Int) (v : Value) (m n : Nat) (F : Nat → Nat → Int) (X : World) : Prop where
  g : Grid X (Far u X) v m (fun _ => n) F
  tk : ∃ q, MTk X u A2 c2 N2 z2 q
  b : Below w.heap.size w X
theorem Ctx.calls {w X Y : World} {u : Nat} {A2 : Option Addr} {c2 N2 : Nat} {z2 : Nat → Int} {v : Value} {m n : Nat} {F : Nat → Nat → Int} (h : Ctx w u A2 c2 N2 z2 v m n F X) (hb : Below X.heap.size X Y) : Ctx w u A2 c2 N2 z2 v m n F Y :=
  ⟨far_calls h.g hb, h.tk.imp fun _ hq => hq.but hb hq.1.lt, h.b.trans (hb.mono h.b.size)⟩
theorem Ctx.turns {w X Y : World} {u : Nat} {A2 : Option Addr} {c2 N2 : Nat} {z2 : Nat → Int} {v : Value} {m n q : Nat} {F : Nat → Nat → Int} (h : Ctx w u A2 c2 N2 z2 v m n F X) (hw : w.heap.size ≤ u) (ht : Turn (· = u) X Y) (hq : MTk Y u A2 c2 N2 z2 q) : Ctx w u A2 c2 N2 z2 v m n F Y :=
  ⟨grid_far h.g ht, ⟨q, hq⟩, below_turn h.b ht hw⟩
theorem Ctx.drew {w X : World} {u : Nat} {A2 : Option Addr} {c2 N2 : Nat} {z2 : Nat → Int} {v : Value} {m n : Nat} {F : Nat → Nat → Int} (h : Ctx w u A2 c2 N2 z2 v m n F X) (k : Nat) : Ctx w u A2 c2 N2 z2 v m n F (X.drewN k) :=
  ⟨far_drew h.g k, h.tk.imp fun _ hq => ⟨hq.1, hq.2.keep (fun _ h => h) (fun _ _ => rfl) (fun _ _ => rfl)⟩, ⟨h.b.os, h.b.tape, h.b.output, h.b.size, h.b.block⟩⟩

/-- Between two pairs of rows of the other list. -/
structure OtI (W7 : World) (u : Nat) (A2 : Option Addr) (c2 N2 : Nat) (z2 : Nat → Int) (p : Int) (m n : Nat) (F : Nat → Nat → Int) (k : Nat) (v : Value) (rs : Nat → Value) (G : Nat → Nat → Int) (X : World) : Prop where
  tk : ∃ q, MTk X u A2 c2 N2 z2 q
  tu : Turn (· = u) W7 X
  own : X.ownsRow W7.heap.size 22 1 v (2 * k) ((List.range (2 * k)).map rs)
  row : ∀ j, j < 2 * k → Vec X (fun b => Far u X b ∧ v.ownBlock ≠ some b) (rs j) n (G j)
  sp : ∀ j, j < 2 * k → SpL p (rowsL n F m) (wideF n (G j))
  cov : ∀ i, i < m → m - k ≤ i → ∃ j, j < 2 * k ∧ ∀ x, x < n → G j x = F i x
theorem OtI.drew {W7 : World} {u : Nat} {A2 : Option Addr} {c2 N2 : Nat} {z2 : Nat → Int} {p : Int} {m n : Nat} {F : Nat → Nat → Int} {k : Nat} {v : Value} {rs : Nat → Value} {G : Nat → Nat → Int} {X : World} (h : OtI W7 u A2 c2 N2 z2 p m n F k v rs G X) : OtI W7 u A2 c2 N2 z2 p m n F k v rs G X.drew :=
  ⟨h.tk.imp fun _ hq => ⟨hq.1, hq.2.keep (fun _ h => h) (fun _ _ => rfl) (fun _ _ => rfl)⟩, ⟨h.tu.os, h.tu.tape, h.tu.output, h.tu.size, h.tu.block⟩, h.own, fun j hj => (h.row j hj).keep (fun _ h => h) (fun _ _ => rfl) (fun _ _ => rfl), h.sp, h.cov⟩
theorem Ctx.drew1 {w X : World} {u : Nat} {A2 : Option Addr} {c2 N2 : Nat} {z2 : Nat → Int} {v : Value} {m n : Nat} {F : Nat → Nat → Int} (h : Ctx w u A2 c2 N2 z2 v m n F X) : Below w.heap.size w X.drew := ⟨h.b.os, h.b.tape, h.b.output, h.b.size, h.b.block⟩
theorem cell_two_new (w : World) (T : TypeId) (a b : Value) (j : Nat) (u : Value) (h : [a, b][j]? = some u) : (w.alloc (.cells #[a, b] T)).cell? ((⟨w.heap.size, 0, none⟩ : Addr).add j) = some u := by
  have hr := row_new (W := w) rfl T #[a, b]
  rw [Addr.add_lit, Nat.zero_add]
  exact hr.cell (by rw [← Array.getElem?_toList]; exact h)
theorem OtI.next {W7 X X1 X3 : World} {u : Nat} {A2 : Option Addr} {c2 N2 : Nat} {z2 : Nat → Int} {p : Int} {m n : Nat} {F : Nat → Nat → Int} {k q i : Nat} {v v3 ai r : Value} {x : Nat → Int} {rs : Nat → Value} {G : Nat → Nat → Int} (h : OtI W7 u A2 c2 N2 z2 p m n F k v rs G X) (hu : u < W7.heap.size) (hi : i + 1 + k = m) (hai : Vec W7 (Far u W7) ai n (F i))
    (hr : Vec X1 (New X X1) r n (mixF p x F m)) (hq : MTk X1 u A2 c2 N2 z2 q) (ht : Turn (· = u) X X1) (o : Obj) (hown : X3.ownsRow W7.heap.size 22 1 v3 (2 * k + 2) ((List.range (2 * k)).map rs ++ [ai, r])) (hg : (X1.alloc o).grownBy X3 v.ownBlock) (hv3 : v3.ownBlock = v.ownBlock ∨ v3.ownBlock = some (X1.alloc o).heap.size) :
    ∃ rs' G', OtI W7 u A2 c2 N2 z2 p m n F (k + 1) v3 rs' G' X3 := by
  have hvb : ∀ b, v.ownBlock = some b → W7.heap.size ≤ b ∧ b < X.heap.size := fun b e => h.own.lt b e
  have hvb3 : ∀ b, v3.ownBlock = some b → W7.heap.size ≤ b ∧ b < X3.heap.size := fun b e => hown.lt b e
  have ht2 : Turn (fun b => v.ownBlock = some b) X1 X3 := ⟨hg.os, hg.tape, hg.output, Nat.le_trans (by simp) hg.size, fun q hq hn => (hg.block q (by simp; omega) (fun e => hn e.symm)).trans (Below.heap_alloc _ _ _ hq)⟩
  have hz : (X1.alloc o).heap.size = X1.heap.size + 1 := by simp
  have hs0 := h.tu.size
  have hs1 := ht.size
  have hs3 := ht2.size
  have h3 := h.tu.trans ht
  have htu : Turn (· = u) W7 X3 := ⟨ht2.os.trans h3.os, ht2.tape.trans h3.tape, ht2.output.trans h3.output, Nat.le_trans h3.size ht2.size, fun b hb hn => (ht2.block b (Nat.lt_of_lt_of_le hb h3.size) (fun e => by have := (hvb b e).1; omega)).trans (h3.block b hb hn)⟩
  refine ⟨fun j => if j = 2 * k then ai else if j = 2 * k + 1 then r else rs j, fun j => if j = 2 * k then F i else if j = 2 * k + 1 then mixF p x F m else G j, ⟨q, hq.turn ht2 fun b hb e => by have := (hvb b e).1; omega⟩, htu, ?_, fun j hj => ?_, fun j hj => ?_, fun a ha hka => ?_⟩
  · have hl : (List.range (2 * k)).map rs ++ [ai, r] = (List.range (2 * (k + 1))).map fun j => if j = 2 * k then ai else if j = 2 * k + 1 then r else rs j := by
      rw [show 2 * (k + 1) = 2 * k + 1 + 1 by omega, List.range_succ, List.range_succ, List.map_append, List.map_append, List.map_cons, List.map_nil, List.map_cons, List.map_nil, if_pos rfl, if_neg (by omega), if_pos rfl, List.append_assoc]
      congr 1
      refine List.map_congr_left fun j hj => ?_
      have : j < 2 * k := List.mem_range.1 hj
      rw [if_neg (by omega), if_neg (by omega)]
    rw [hl] at hown
    exact hown
  · by_cases e : j = 2 * k
    · rw [if_pos e, if_pos e]
      refine (hai.turn htu (fun b hb (e : b = u) => by have := hb.1; omega)).more fun b hb => ⟨⟨hb.1, ?_⟩, fun e => ?_⟩
      · have := hb.2; have := htu.size; omega
      · have := (hvb3 b e).1; have := hb.2; omega
    · by_cases e2 : j = 2 * k + 1
      · rw [if_neg e, if_neg e, if_pos e2, if_pos e2]
        refine (hr.turn ht2 (fun b hb e => by have := hb.1; have := (hvb b e).2; omega)).more fun b hb => ⟨⟨?_, ?_⟩, fun e => ?_⟩
        · have := hb.1; omega
        · have := hb.2; omega
        · have h1 := hb.1
          have h2 := hb.2
          rcases hv3 with e3 | e3
          · have := (hvb b (e3.symm.trans e)).2; omega
          · rw [e3] at e
            injection e with e
            omega
      · rw [if_neg e, if_neg e, if_neg e2, if_neg e2]
        refine (((h.row j (by omega)).turn ht (fun b hb (e : b = u) => by have := hb.1.1; omega)).turn ht2 (fun b hb e => hb.2 e)).more fun b hb => ⟨⟨hb.1.1, ?_⟩, fun e => ?_⟩
        · have := hb.1.2; omega
        · have h2 := hb.1.2
          rcases hv3 with e3 | e3
          · exact hb.2 (e3.symm.trans e)
          · rw [e3] at e
            injection e with e
            omega
  · by_cases e : j = 2 * k
    · rw [if_pos e]
      exact row_span (by omega) fun _ _ => rfl
    · by_cases e2 : j = 2 * k + 1
      · rw [if_neg e, if_pos e2]
        exact mix_span x m (Nat.le_refl _)
      · rw [if_neg e, if_neg e2]
        exact h.sp j (by omega)
  · by_cases e : a = i
    · exact ⟨2 * k, by omega, fun x _ => by rw [if_pos rfl, e]⟩
    · obtain ⟨j, hj, hx⟩ := h.cov a ha (by omega)
      exact ⟨j, by omega, fun x hx' => by rw [if_neg (by omega), if_neg (by omega)]; exact hx x hx'⟩
/-- The other list, read. -/
theorem OtI.done {W7 X : World} {u : Nat} {A2 : Option Addr} {c2 N2 : Nat} {z2 : Nat → Int} {p : Int} {m n : Nat} {F : Nat → Nat → Int} {k : Nat} {v : Value} {rs : Nat → Value} {G : Nat → Nat → Int} (h : OtI W7 u A2 c2 N2 z2 p m n F k v rs G X) (hu : u < W7.heap.size) : Grid X (Far u X) v (2 * k) (fun _ => n) G := by
  rcases h.own.2 with ⟨rfl, hz⟩ | ⟨gb, cap, cur, rfl, hbase, hgbk, r1, r2, r3, r4⟩
  · exact ⟨none, 0, by rw [hz], by omega, fun h => absurd h (by omega)⟩
  · refine ⟨_, cap, rfl, r1, fun _ => ⟨gb, 0, rfl, ⟨by omega, (Array.getElem?_eq_some_iff.1 hgbk).1⟩, fun i hi => ?_⟩⟩
    have h1 : ((List.range (2 * k)).map rs)[i]? = some (rs i) := by simp [hi]
    rw [← r4, List.getElem?_take_of_lt (by omega)] at h1
    exact ⟨_, by rw [Nat.zero_add]; exact Row.cell (show Row X gb 22 cur from hgbk) (by rw [← Array.getElem?_toList]; exact h1), (h.row i hi).more fun b hb => hb.1⟩

/-- A copy of a grid's rows has been made. -/
def OwnG (S : Nat → Prop) (m n : Nat) (F : Nat → Nat → Int) (X : World) (e : Ending) (X' : World) : Prop := ∃ r rs, e = .returned r ∧ X'.ownsRow X.heap.size 22 1 r m ((List.range m).map rs) ∧ (∀ i, i < m → Vec X' S (rs i) n (F i)) ∧ Below X.heap.size X X'
theorem own_grid {S : Nat → Prop} {A : Option Addr} {c m n : Nat} {F : Nat → Nat → Int} (X : World) (hS : ∀ b, S b → b < X.heap.size) (hm : m ≤ 1000) (hg : Grid X S (.slice A m c) m (fun _ => n) F) : Calls Try.prog 14 #[.slice A m c] X (OwnG S m n F X) := by
  by_cases h0 : m = 0
  · subst h0
    refine (ownR_nil A c X).mono ?_
    rintro e X' ⟨r, rfl, ho, hb⟩
    exact ⟨r, fun _ => r, rfl, ho, fun i hi => absurd hi (by omega), hb⟩
  · obtain ⟨b, o, c', RA, RC, he, -, hb, hgc⟩ := hg.at_ (by omega)
    injection he with e1 _ e3
    subst e1; subst e3
    refine (ownR_any b o c m ((List.range m).map fun i => .slice (RA i) n (RC i)) X (by simp) hm (hS _ hb) (fun j v hj => ?_) (fun v hv => ?_)).mono ?_
    · rw [List.getElem?_map] at hj
      obtain ⟨i, hi, rfl⟩ := Option.map_eq_some_iff.1 hj
      obtain ⟨hl, rfl⟩ := List.getElem?_eq_some_iff.1 hi
      rw [List.getElem_range]
      exact (hgc j (by simpa using hl)).1
    · obtain ⟨i, _, rfl⟩ := List.mem_map.1 hv
      rfl
    · rintro e X' ⟨r, rfl, ho, hb'⟩
      exact ⟨r, _, rfl, ho, fun i hi => (hgc i hi).2.below hS hb', hb'⟩
/-- Behind the copy and the last row's list. -/
structure Mid (Y : World) (m n : Nat) (F : Nat → Nat → Int) (f0 : Nat → Int) (bs : Nat) (ro : Value) (rs : Nat → Value) (bn : Nat) (v0 : Value) (Z : World) : Prop where
  own : Z.ownsRow bs 22 1 ro m ((List.range m).map rs)
  bs0 : Y.heap.size ≤ bs
  bs1 : bs ≤ Z.heap.size
  be : Below Y.heap.size Y Z
  cell : Z.cell? ⟨bn, 0, none⟩ = some v0
  row : ∀ i, i < m → Vec Z (· < Y.heap.size) (rs i) n (F i)
  last : Vec Z (· < Y.heap.size) v0 n f0
theorem Mid.next {Y Z Z2 : World} {m n : Nat} {F : Nat → Nat → Int} {f0 : Nat → Int} {bs bn : Nat} {ro v0 v' : Value} {rs : Nat → Value} (h : Mid Y m n F f0 bs ro rs bn v0 Z) (hown : Z2.ownsRow bs 22 1 v' (m + 1) ((List.range m).map rs ++ [v0])) (hg : Z.grownBy Z2 ro.ownBlock) :
    Grid Z2 (· < Z2.heap.size) v' (m + 1) (fun _ => n) (fun i => if i < m then F i else f0) ∧ Below Y.heap.size Y Z2 := by
  have hb := h.be.grown hg (h.be.size) (fun q hq => Nat.le_trans h.bs0 (h.own.lt q hq).1)
  have hz := h.be.size
  have hvk : ∀ (v : Value) (f : Nat → Int), Vec Z (· < Y.heap.size) v n f → Vec Z2 (· < Z2.heap.size) v n f := fun v f hv =>
    hv.keep (fun b hb' => by have : b < Y.heap.size := hb'; have := hb.size; show b < Z2.heap.size; omega) (fun p hp => by
      have hp' : p.block < Y.heap.size := hp
      unfold World.cell?; rw [hg.block p.block (by omega) (fun e => by have := (h.own.lt _ e.symm).1; have := h.bs0; omega)]) (fun _ _ => rfl)
  refine ⟨?_, hb⟩
  rcases hown.2 with ⟨rfl, hz0⟩ | ⟨gb, cap, cur, rfl, hbase, hgbk, r1, r2, r3, r4⟩
  · exact absurd hz0 (by omega)
  · refine ⟨_, cap, rfl, r1, fun _ => ⟨gb, 0, rfl, (Array.getElem?_eq_some_iff.1 hgbk).1, fun i hi => ?_⟩⟩
    have h1 : ((List.range m).map rs ++ [v0])[i]? = some (if i < m then rs i else v0) := by
      by_cases e : i < m
      · rw [if_pos e, List.getElem?_append_left (by simpa using e)]; simp [e]
      · obtain rfl : i = m := by omega
        rw [if_neg (Nat.lt_irrefl _), List.getElem?_append_right (by simp)]; simp
    rw [← r4, List.getElem?_take_of_lt (by omega)] at h1
    refine ⟨_, by rw [Nat.zero_add]; exact Row.cell (show Row Z2 gb 22 cur from hgbk) (by rw [← Array.getElem?_toList]; exact h1), ?_⟩
    by_cases e : i < m
    · dsimp only; rw [if_pos e, if_pos e]; exact hvk _ _ (h.row i e)
    · dsimp only; rw [if_neg e, if_neg e]; exact hvk _ _ h.last
theorem mid_own {Y X' : World} {m n : Nat} {F : Nat → Nat → Int} {f0 : Nat → Int} {r v0 : Value} {rs : Nat → Value} (ho : X'.ownsRow Y.heap.size 22 1 r m ((List.range m).map rs)) (hr : ∀ i, i < m → Vec X' (· < Y.heap.size) (rs i) n (F i)) (hb : Below Y.heap.size Y X') (hv : Vec Y (· < Y.heap.size) v0 n f0) :
    Mid Y m n F f0 Y.heap.size r rs X'.heap.size v0 (X'.alloc (.cells #[v0] 22)) := by
  have ha := (Below.refl X'.heap.size X').alloc (Nat.le_refl _) (.cells #[v0] 22)
  have hz := hb.size
  have hl : ∀ b, b < Y.heap.size → b < X'.heap.size := fun b h => Nat.lt_of_lt_of_le h hz
  exact ⟨ho.alloc _, Nat.le_refl _, by simp; omega, hb.alloc hz _, (row_new rfl _ _).cell rfl, fun i hi => (hr i hi).below hl ha, (hv.below (fun _ h => h) hb).below hl ha⟩
theorem mid_new {Y X' : World} {m n : Nat} {F : Nat → Nat → Int} {f0 : Nat → Int} {r v0 : Value} {rs : Nat → Value} (ho : X'.ownsRow (Y.alloc (.cells #[v0] 22)).heap.size 22 1 r m ((List.range m).map rs)) (hr : ∀ i, i < m → Vec X' (· < Y.heap.size) (rs i) n (F i)) (hb : Below (Y.alloc (.cells #[v0] 22)).heap.size (Y.alloc (.cells #[v0] 22)) X') (hv : Vec Y (· < Y.heap.size) v0 n f0) :
    Mid Y m n F f0 (Y.alloc (.cells #[v0] 22)).heap.size r rs Y.heap.size v0 X' := by
  have ha := (Below.refl Y.heap.size Y).alloc (Nat.le_refl _) (.cells #[v0] 22)
  have hz : (Y.alloc (.cells #[v0] 22)).heap.size = Y.heap.size + 1 := by simp
  have hb2 : Below Y.heap.size Y X' := ha.trans (hb.mono (by omega))
  exact ⟨ho, by omega, hb.size, hb2, (hb.cell (p := ⟨Y.heap.size, 0, none⟩) (by rw [hz]; exact Nat.lt_succ_self _)).trans ((row_new (W := Y) rfl _ _).cell rfl), hr, hv.below (fun _ h => h) hb2⟩
theorem beq_nat (a b : Nat) : (decide (a = b) == ((a : Int) == (b : Int))) = true := by
  by_cases h : a = b
  · subst h; simp
  · have h2 : ¬ (a : Int) = b := by omega
    simp [h, h2]
theorem cell_one_at {w : World} {b : Nat} {a : Value} (h : w.cell? ⟨b, 0, none⟩ = some a) (j : Nat) (u : Value) (hj : [a][j]? = some u) : w.cell? ((⟨b, 0, none⟩ : Addr).add j) = some u := by
  cases j with
  | zero => rw [Addr.add_lit, ← hj]; exact h
  | succ j => simp at hj

set_option maxRecDepth 100000 in
set_option maxHeartbeats 16000000 in
theorem linearBasis_main (A : Option Addr) (c N : Nat) (z : Nat → Int) (A2 : Option Addr) (c2 N2 : Nat) (z2 : Nat → Int) (p0 m0 n0 : Int) (w : World) (hv : Vec w (· < w.heap.size) (.slice A N c) N z) (hv2 : Vec w (· < w.heap.size) (.slice A2 N2 c2) N2 z2) :
    Calls Try.prog 3 #[.slice A N c, .slice A2 N2 c2, .int .i64 p0, .int .i64 m0, .int .i64 n0] w fun e w' => e = .returned (.bool true) ∧ Below w.heap.size w w' := by
  have HV := Lib.hid hv
  have HV2 := Lib.hid hv2
  clear hv hv2
  by_cases hmost : 80 < N ∨ 80 < N2
  · by_cases h1 : 80 < N
    · have hd : decide ((N : Int) > 80) = true := decide_eq_true (by omega)
      clear HV HV2
      go_enter Try.func3, Try.ntmps3
      go_wp2_with fail
      refine (lives_any _).mono ?_
      rintro e w0 ⟨rfl, hb⟩
      have HB := Lib.hid hb
      clear hb
      go_wp2_with fail
      go_ret
      exact ⟨rfl, HB.out⟩
    · have hd : decide ((N : Int) > 80) = false := decide_eq_false (by omega)
      have hd2 : decide ((N2 : Int) > 80) = true := decide_eq_true (by omega)
      clear HV HV2
      go_enter Try.func3, Try.ntmps3
      go_wp2_with fail
      refine (lives_any _).mono ?_
      rintro e w0 ⟨rfl, hb⟩
      have HB := Lib.hid hb
      clear hb
      go_wp2_with fail
      go_ret
      exact ⟨rfl, HB.out⟩
  · have hN : N ≤ 17592186044400 := by omega
    have hN2 : N2 ≤ 17592186044400 := by omega
    have hd : decide ((N : Int) > 80) = false := decide_eq_false (by omega)
    have hd2 : decide ((N2 : Int) > 80) = false := decide_eq_false (by omega)
    have HF := fun W => Lib.hid (field_any p0 W)
    have HP := fun W => Lib.hid (Pick_any m0 7 W (by omega) (by omega))
    have HPN := fun W => Lib.hid (Pick_any n0 6 W (by omega) (by omega))
    have hm6 := resV_lt m0 (p := 7) (by omega)
    obtain ⟨j0, hj0, hy0, hy1, hy2⟩ := info_parts infoSl
    have hlt := resV_lt n0 (p := 6) (by omega)
    generalize resV m0 7 = m at HP hm6
    generalize resV n0 6 = x at HPN hlt
    obtain ⟨n, hn⟩ : ∃ n : Nat, 1 + (x : Int) = (n : Int) := ⟨1 + x, by omega⟩
    have hn1 : 1 ≤ n := by omega
    have hn6 : n ≤ 6 := by omega
    go_enter Try.func3, Try.ntmps3
    go_wp2_with fail
    refine (lives_any _).mono ?_
    rintro e w0 ⟨rfl, hb⟩
    have HB0 := Lib.hid hb
    have HV0 := Lib.hid (vec_on HV.out hb)
    have HW0 := Lib.hid (vec_on HV2.out hb)
    clear hb HV HV2
    go_wp2_with fail
    refine (HF _).out.mono ?_
    rintro e w1 ⟨⟨p, rfl, hp⟩, hb⟩
    have HB1 := Lib.hid (HB0.out.trans (hb.mono HB0.out.size))
    have HV1 := Lib.hid (vec_on HV0.out hb)
    have HW1 := Lib.hid (vec_on HW0.out hb)
    obtain ⟨hp2, hp3, hp6⟩ := modB_true hp
    rw [Int.toNat_natCast] at hp6
    have HMOD := Lib.hid hp
    clear hb hp HB0 HV0 HW0 HF
    go_wp2_with fail
    refine (HP _).out.mono ?_
    rintro e w2 ⟨rfl, rfl⟩
    go_wp2_with fail
    refine (HPN _).out.mono ?_
    rintro e w3 ⟨rfl, rfl⟩
    clear HP HPN
    have hsz := HB1.out.size
    have HT0 := Lib.hid (taker_new w3 A c N z HV1.out)
    have HU0 := Lib.hid (taker_new (w3.alloc (.cells #[.slice A N c, .int .i64 0] 28)) A2 c2 N2 z2 (vec_on HW1.out ((Below.refl _ _).alloc (Nat.le_refl _) _)))
    have HB2 := Lib.hid ((HB1.out.alloc hsz (.cells #[.slice A N c, .int .i64 0] 28)).alloc (by simp; omega) (.cells #[.slice A2 N2 c2, .int .i64 0] 28))
    have HUV0 := Lib.hid (HW1.out.below (fun _ h => h) (((Below.refl w3.heap.size w3).alloc (Nat.le_refl _) (.cells #[.slice A N c, .int .i64 0] 28)).alloc (by simp) (.cells #[.slice A2 N2 c2, .int .i64 0] 28)))
    clear HV1 HB1 HW1
    go_wp2_with fail
    have hT1 := HT0.out.but ((Below.refl (w3.alloc (.cells #[.slice A N c, .int .i64 0] 28)).heap.size (w3.alloc (.cells #[.slice A N c, .int .i64 0] 28))).alloc (Nat.le_refl _) (.cells #[.slice A2 N2 c2, .int .i64 0] 28)) HT0.out.1.lt
    have HT1 := Lib.hid hT1
    have hU1 := HU0.out
    rw [World.size_alloc] at hU1
    have HU1 := Lib.hid hU1
    have hz4 : ((w3.alloc (.cells #[.slice A N c, .int .i64 0] 28)).alloc (.cells #[.slice A2 N2 c2, .int .i64 0] 28)).heap.size = w3.heap.size + 2 := by simp
    clear hT1 hU1 HT0 HU0
    generalize (w3.alloc (.cells #[.slice A N c, .int .i64 0] 28)).alloc (.cells #[.slice A2 N2 c2, .int .i64 0] 28) = w4 at HT1 HU1 HB2 hz4 HUV0
    generalize w3.heap.size = t at HT1 HU1 hsz hz4 HUV0
    refine (drawn_any t A c N 0 z p m n w4 (by omega) (by omega) (by omega) hn1 (by omega) hN HT1.out).mono ?_
    rintro e w5 ⟨ra, F, q5, rfl, hg, hf, hT, htu⟩
    obtain ⟨Aa, ca, rfl, -⟩ := hg.form
    have hs5 := htu.size
    have HCX5 := Lib.hid (show Ctx w (t + 1) A2 c2 N2 z2 (.slice Aa m ca) m n F w5 from ⟨hg.more fun b hb => ⟨by have := hb.1; omega, hb.2⟩, ⟨0, HU1.out.1.turn htu (fun (e : t + 1 = t) => by omega), (HUV0.out.turn htu (fun q hq (e : q = t) => by have : q < t := hq; omega)).more fun q hq => by have : q < t := hq; show q < t + 1; omega⟩, below_turn HB2.out htu hsz⟩)
    have HFA := Lib.hid hf
    have hwu : w.heap.size ≤ t + 1 := by omega
    clear hg hf hT htu hs5 HT1 HU1 HUV0 HB2 hz4 hsz
    generalize t + 1 = u at HCX5 hwu ⊢
    have HBO := Lib.hid (fun M (hM : M ≤ 200) => (chkB_ok (p := (p : Int)) (n := (n : Int)) (m := M) (l := fun _ => n) HMOD.out (by omega) (by omega) hM (fun _ _ => rfl)))
    have HIO := Lib.hid (chkI_ok (p := (p : Int)) (n := (n : Int)) (m := m) (k := n) (l := fun _ => n) HMOD.out (by omega) (by omega) (by omega) (fun _ _ => rfl) rfl)
    have HIV := Lib.hid (invF (p := (p : Int)) (by rw [Int.toNat_natCast]; exact hp6) hp2)
    have HEC := Lib.hid (elimR_ech (p := (p : Int)) (by omega) HIV.out n (rowsL n F m))
    have hLm := elim_len (p := (p : Int)) (by omega) HIV.out n m F
    have HRO := Lib.hid (basis_own (p := (p : Int)) (by omega) HIV.out (n := n) (m := m) (F := F))
    obtain ⟨R, hR⟩ : ∃ R, elimR p n (invI p) (rowsL n F m) = R := ⟨_, rfl⟩
    rw [hR] at HEC hLm HRO
    have HR := Lib.hid hR
    clear hR
    go_wp2_with fail
    refine (Basis_any p n (.slice Aa m ca) m (fun _ => n) F w5 (by omega) (HCX5.out.g.more fun _ h => h.2)).mono ?_
    rintro e w6 ⟨-, h6⟩
    obtain ⟨vb, rfl, hgb, hb6⟩ := h6 (HBO.out m (by omega))
    rw [Int.toNat_natCast] at hgb
    change Grid w6 _ vb (pivL n (elimR p n (invI p) (rowsL n F m))).length _ (basF n (elimR p n (invI p) (rowsL n F m))) at hgb
    rw [HR.out] at hgb
    obtain ⟨L, hL⟩ : ∃ L, (pivL n R).length = L := ⟨_, rfl⟩
    have HBE := Lib.hid (basis_ech HEC.out)
    rw [hL] at hgb hLm HRO HBE
    obtain ⟨Ab, cb, rfl, -⟩ := hgb.form
    have hu5 := HCX5.out.tk.elim fun _ h => h.1.lt
    have HGB6 := Lib.hid (show Grid w6 (Far u w6) (.slice Ab L cb) L (fun _ => n) (basF n R) from hgb.more fun b hb => ⟨by have := hb.1; omega, hb.2⟩)
    have HCX6 := Lib.hid (HCX5.out.calls hb6)
    clear hgb hb6 h6 HCX5 hu5 HEC
    have HL := Lib.hid hL
    clear hL
    have hLd : decide ((L : Int) > (m : Int)) = false := decide_eq_false (by omega)
    go_wp2_with fail
    refine (echelon_any p L n (.slice Ab L cb) (basF n R) _ _ w6 (by omega) (by omega) HGB6.out HBE.out).mono ?_
    rintro e w6' ⟨rfl, rfl⟩
    clear HBE
    go_wp2_with fail
    refine (Basis_any p n (.slice Ab L cb) L (fun _ => n) (basF n R) w6' (by omega) (HGB6.out.more fun _ h => h.2)).mono ?_
    rintro e w7 ⟨-, h7⟩
    obtain ⟨vc, rfl, hgc, hb7⟩ := h7 (HBO.out L (by omega))
    rw [Int.toNat_natCast] at hgc
    change Grid w7 _ vc (pivL n (elimR p n (invI p) (rowsL n (basF n R) L))).length _ (basF n (elimR p n (invI p) (rowsL n (basF n R) L))) at hgc
    rw [HRO.out, HL.out] at hgc
    obtain ⟨Ac, cc, rfl, -⟩ := hgc.form
    have hu6 := HCX6.out.tk.elim fun _ h => h.1.lt
    have HGC7 := Lib.hid (show Grid w7 (Far u w7) (.slice Ac L cc) L (fun _ => n) (basF n R) from hgc.more fun b hb => ⟨by have := hb.1; omega, hb.2⟩)
    have HGB7 := Lib.hid (far_calls HGB6.out hb7)
    have HCX7 := Lib.hid (HCX6.out.calls hb7)
    clear hgc hb7 h7 HCX6 hu6 HRO HGB6
    have hu7 := HCX7.out.tk.elim fun _ h => h.1.lt
    have H0 := Lib.hid (show OtI w7 u A2 c2 N2 z2 p m n F 0 (.slice none 0 0) (fun _ => .slice none 0 0) (fun _ _ => 0) w7 from ⟨HCX7.out.tk, Turn.refl _ _, World.ownsRow_nil _ _ _ _, fun j hj => absurd hj (by omega), fun j hj => absurd hj (by omega), fun i hi h => absurd h (by omega)⟩)
    go_wp2_with fail
    go_loopw [18, 19] (fun v i wr => ∃ (k : Nat) (j : Int) (rs : Nat → Value) (G : Nat → Nat → Int), i = .int .i64 j ∧ j = (m : Int) - 1 - k ∧ k ≤ m ∧ Hid (OtI w7 u A2 c2 N2 z2 p m n F k v rs G wr)) (fun _ i _ => (intOf i + 1).toNat)
    case atStart => exact ⟨0, _, _, _, rfl, by simp, Nat.zero_le _, H0⟩
    case round =>
      obtain ⟨k, j, rs, G, rfl, hj, hk, HO⟩ := hrel
      obtain ⟨Av, cv, hv⟩ := owned_form HO.out.own
      subst hv
      by_cases hlt : k < m
      · obtain ⟨i, rfl⟩ : ∃ i : Nat, j = i := ⟨j.toNat, by omega⟩
        have hi : i + 1 + k = m := by omega
        clear hj
        have d1 : decide ((i : Int) ≥ 0) = true := decide_eq_true (by omega)
        obtain ⟨Al, cl, e, hcl, hgg⟩ := HCX7.out.g
        injection e with e1 _ e3
        subst e1; subst e3
        obtain ⟨b, o, rfl, hb, hgc⟩ := hgg (by omega)
        obtain ⟨ai, hr1, hr2⟩ := hgc i (by omega)
        have hrf := hr2.form
        obtain ⟨Ar, cr, rfl, -⟩ := hrf
        have HAI := Lib.hid hr2
        have hbu : b ≠ u := by have := hb.1; omega
        have hc1 : wr.cell? ⟨b, o + i, none⟩ = some (.slice Ar n cr) := HO.out.tu.cell hr1 hbu
        have hbw : b < w7.heap.size := hb.2
        have hwr := HO.out.tu.size
        clear hgg hgc hr1 hr2
        obtain ⟨q, hq⟩ := HO.out.drew.tk
        have HQ := Lib.hid hq
        have HOD := Lib.hid HO.out.drew
        have HAG := Lib.hid (show Grid wr.drew (fun z => z < wr.drew.heap.size ∧ z ≠ u) (.slice (some ⟨b, o, none⟩) m ca) m (fun _ => n) F from HCX7.out.g.keep (fun z hz => ⟨Nat.lt_of_lt_of_le hz.2 hwr, by have := hz.1; omega⟩) (fun q hq => (show wr.cell? q = w7.cell? q from by unfold World.cell?; rw [HO.out.tu.block q.block hq.2 (fun e => by have := hq.1; omega)])) (fun _ _ => rfl) (fun _ _ _ _ => rfl))
        have hwd : w7.heap.size ≤ wr.drew.heap.size := hwr
        have d2 : (0 : Int) ≤ i := by omega
        have d3 : (i : Int) < (m : Int) := by omega
        have d4 : i < m := by omega
        have hsub : IntKind.i64.wrap ((i : Int) - 1) = (i : Int) - 1 := IntWalk.i64_in _ ⟨by omega, by omega⟩
        clear hq
        go_wp2_with fail
        refine wp_region_held_drew (S := (fun W1 => W1.cell? ⟨b, o + i, none⟩ = some (.slice Ar n cr))) (by kernel_rfl) hc1 (fun hHeld => ?_)
        clear hc1 HO hwr
        generalize wr.drew = X at hHeld HOD HQ HAG hwd ⊢
        refine takeH (i := 0) (v := (.slice Av (2 * k) cv)) rfl rfl (by kernel_rfl) (by kernel_rfl) (by kernel_rfl) (fun _ _ _ h => h) (by rfl) (fun W hW => by (skip); go_simp) (by assumption) ?_
        simp only [List.setIfInBounds_toArray, List.set_cons_zero, List.set_cons_succ]
        refine takeH (i := 1) (v := (.slice (some ⟨b, o, none⟩) m ca)) rfl rfl (by kernel_rfl) (by kernel_rfl) (by kernel_rfl) (fun _ _ _ h => h) (by rfl) (fun W hW => by (skip); go_simp) (by assumption) ?_
        simp only [List.setIfInBounds_toArray, List.set_cons_zero, List.set_cons_succ]
        refine takeH (i := 2) (v := (.int .i64 i)) rfl rfl (by kernel_rfl) (by kernel_rfl) (by kernel_rfl) (fun _ _ _ h => h) (by rfl) (fun W hW => by (skip); go_simp) (by assumption) ?_
        simp only [List.setIfInBounds_toArray, List.set_cons_zero, List.set_cons_succ]
        refine takeH (i := 3) (v := (.pointer (some ⟨b, o + i, none⟩))) rfl rfl (by kernel_rfl) (by kernel_rfl) (by kernel_rfl) (fun _ _ _ h => h) (by rfl) (fun W hW => by (skip); go_simp) (by assumption) ?_
        simp only [List.setIfInBounds_toArray, List.set_cons_zero, List.set_cons_succ]
        refine takeH (i := 4) (v := (.slice Ar n cr)) rfl rfl (by kernel_rfl) (by kernel_rfl) (by kernel_rfl) (fun _ _ _ h => h) (by rfl) (fun W hW => by (skip); go_simp) (by assumption) ?_
        simp only [List.setIfInBounds_toArray, List.set_cons_zero, List.set_cons_succ]
        refine takeH (i := 5) (v := (.pointer (some ⟨u, 0, none⟩))) rfl rfl (by kernel_rfl) (by kernel_rfl) (by kernel_rfl) (fun _ _ _ h => h) (by rfl) (fun W hW => by (skip); go_simp) (by assumption) ?_
        simp only [List.setIfInBounds_toArray, List.set_cons_zero, List.set_cons_succ]
        refine takeH (i := 6) (v := (.int .i64 p)) rfl rfl (by kernel_rfl) (by kernel_rfl) (by kernel_rfl) (fun _ _ _ h => h) (by rfl) (fun W hW => by (skip); go_simp) (by assumption) ?_
        simp only [List.setIfInBounds_toArray, List.set_cons_zero, List.set_cons_succ]
        refine takeH (i := 7) (v := (.int .i64 n)) rfl rfl (by kernel_rfl) (by kernel_rfl) (by kernel_rfl) (fun _ _ _ h => h) (by rfl) (fun W hW => by (skip); go_simp) (by assumption) ?_
        simp only [List.setIfInBounds_toArray, List.set_cons_zero, List.set_cons_succ]
        refine takeH (i := 8) (v := (.slice (some ⟨b, o, none⟩) m ca)) rfl rfl (by kernel_rfl) (by kernel_rfl) (by kernel_rfl) (fun _ _ _ h => h) (by rfl) (fun W hW => by (skip); go_simp) (by assumption) ?_
        simp only [List.setIfInBounds_toArray, List.set_cons_zero, List.set_cons_succ]
        refine wpAnyH_ready (rs := [9]) (by kernel_rfl) (by simp) ?_
        refine (AllReadyH.cons rfl (fun K hK => ?_) AllReadyH.nil)
        go_simp
        refine (mix_any u A2 c2 N2 q z2 p m n (.slice (some ⟨b, o, none⟩) m ca) F X (by omega) (by omega) (by omega) hn1 (by omega) hN2 HQ.out HAG.out HFA.out).mono ?_
        rintro e X1 ⟨r, y, q9, rfl, hrv, hq9, ht9⟩
        have hrf := hrv.form
        obtain ⟨A9, c9, rfl, -⟩ := hrf
        have HRV := Lib.hid hrv
        have HQ9 := Lib.hid hq9
        have HT9 := Lib.hid ht9
        have hs9 := ht9.size
        have hcX1 : X1.cell? ⟨b, o + i, none⟩ = some (.slice Ar n cr) := ht9.cell hHeld hbu
        clear hrv hq9 ht9 hHeld
        dsimp only
        refine hK.out _ _ hcX1 (fun hHeld => ?_)
        clear hK K
        try simp only [Act.put, List.setIfInBounds_toArray, List.set_cons_zero, List.set_cons_succ]
        refine wpAnyH_ready (rs := [10]) (by kernel_rfl) (by simp) ?_
        refine (AllReadyH.cons rfl (fun K hK => ?_) AllReadyH.nil)
        go_simp
        have hcX2 : (X1.alloc (.cells #[.slice Ar n cr, .slice A9 n c9] 22)).cell? ⟨b, o + i, none⟩ = some (.slice Ar n cr) := ((Below.refl X1.heap.size X1).alloc (Nat.le_refl _) _).cell (p := ⟨b, o + i, none⟩) (show b < X1.heap.size by omega) |>.trans hHeld
        clear hcX1
        refine hK.out _ _ hcX2 (fun hHeld => ?_)
        clear hK K
        try simp only [Act.put, List.setIfInBounds_toArray, List.set_cons_zero, List.set_cons_succ]
        have hov := (own_turn HOD.out.own HT9.out (fun d e (e2 : d = u) => by have := (HOD.out.own.lt d e).1; omega)).alloc (.cells #[.slice Ar n cr, .slice A9 n c9] 22)
        refine wpAnyH_ready (rs := [11]) (by kernel_rfl) (by simp) ?_
        refine (AllReadyH.cons rfl (fun K hK => ?_) AllReadyH.nil)
        refine op_append_own (.tmp 95) (.tmp 105) 29 rfl w7.heap.size 22 j0 (.slice none 0 0) 1 24 Try.underlying29 hj0 hy0 hy1 hy2 rfl (by decide) _ _ _ rfl hov ⟨X1.heap.size, 0, none⟩ 2 2 [.slice Ar n cr, .slice A9 n c9] rfl rfl (cell_two_new _ _ _ _) (by simp [Value.oneCell']) (by unfold maxLen; omega) (by omega) (by simp; omega) ?_
        intro v3 X3 hown hgr hv3
        have HNX := Lib.hid (HOD.out.next hu7 hi HAI.out HRV.out HQ9.out HT9.out _ hown hgr hv3)
        obtain ⟨g3, c3, rfl⟩ := ownsRow_succ hown
        have hcX3 : X3.cell? ⟨b, o + i, none⟩ = some (.slice Ar n cr) := by
          have h9 := hgr.block b (by simp; omega) (fun e => by have := (HOD.out.own.lt b e.symm).1; omega)
          rw [← hHeld]; unfold World.cell?; rw [show X3.heap[b]? = _ from h9]
        clear hown hgr hv3 hov hcX2
        go_simp
        refine hK.out _ _ hcX3 (fun hHeld => ?_)
        clear hK K
        try simp only [Act.put, List.setIfInBounds_toArray, List.set_cons_zero, List.set_cons_succ]
        refine takeH (i := 12) (v := (.slice (some ⟨g3, 0, none⟩) (2 * k + 2) c3)) rfl rfl (by kernel_rfl) (by kernel_rfl) (by kernel_rfl) (fun _ _ _ h => h) (by rfl) (fun W hW => by (skip); go_simp) (by assumption) ?_
        simp only [List.setIfInBounds_toArray, List.set_cons_zero, List.set_cons_succ]
        refine wpAnyH_done (by kernel_rfl) ?_ _
        go_wp2_with fail
        go_roundw
        case rel =>
          obtain ⟨rs', G', h⟩ := HNX.out
          exact ⟨k + 1, (i : Int) - 1, rs', G', by go_num, by omega, by omega, Lib.hid h⟩
        case measure => simp [intOf]
      · obtain rfl : m = k := by omega
        obtain rfl : j = -1 := by omega
        clear hj
        have hO := HO.out
        have hos : elimR p n (invI p) (rowsL n G (2 * m)) = R := (other_same (by omega) HIV.out (fun i hi => hO.cov i hi (by omega)) hO.sp).trans HR.out
        have HOS := Lib.hid hos
        have hcx := hO.tk.elim fun _ hq => HCX7.out.turns hwu hO.tu hq
        have HCXa := Lib.hid hcx
        have HGBa := Lib.hid (grid_far HGB7.out hO.tu)
        have HGCa := Lib.hid (grid_far HGC7.out hO.tu)
        have HGOa := Lib.hid (hO.done hu7)
        clear hO hos hcx HO HCX7 HGB7 HGC7 H0
        go_wp2_with fail
        refine (Basis_any p n (.slice Av (2 * m) cv) (2 * m) (fun _ => n) G wr (by omega) (HGOa.out.more fun _ h => h.2)).mono ?_
        rintro e w8 ⟨-, h8⟩
        obtain ⟨vd, rfl, hgd, hb8⟩ := h8 (HBO.out (2 * m) (by omega))
        rw [Int.toNat_natCast] at hgd
        change Grid w8 _ vd (pivL n (elimR p n (invI p) (rowsL n G (2 * m)))).length _ (basF n (elimR p n (invI p) (rowsL n G (2 * m)))) at hgd
        rw [HOS.out, HL.out] at hgd
        obtain ⟨Ad, cd, rfl, -⟩ := hgd.form
        have hua := HCXa.out.tk.elim fun _ h => h.1.lt
        have HGD8 := Lib.hid (show Grid w8 (Far u w8) (.slice Ad L cd) L (fun _ => n) (basF n R) from hgd.more fun b hb => ⟨by have := hb.1; omega, hb.2⟩)
        have HGB8 := Lib.hid (far_calls HGBa.out hb8)
        have HGC8 := Lib.hid (far_calls HGCa.out hb8)
        have HGO8 := Lib.hid (far_calls HGOa.out hb8)
        have HCX8 := Lib.hid (HCXa.out.calls hb8)
        clear hgd hb8 h8 HCXa hua HGBa HGCa HGOa
        go_wp2_with fail
        refine (Rank_any p n (.slice Av (2 * m) cv) (2 * m) (fun _ => n) G w8 (by omega) (HGO8.out.more fun _ h => h.2)).mono ?_
        rintro e w9 ⟨y, rfl, -, hy, hb9⟩
        rw [HBO.out (2 * m) (by omega)]
        have hy := hy (HBO.out (2 * m) (by omega))
        rw [Int.toNat_natCast] at hy
        change y = (pivL n (elimR p n (invI p) (rowsL n G (2 * m)))).length at hy
        rw [HOS.out, HL.out] at hy
        subst hy
        have HGB9 := Lib.hid (far_calls HGB8.out hb9)
        have HGC9 := Lib.hid (far_calls HGC8.out hb9)
        have HGD9 := Lib.hid (far_calls HGD8.out hb9)
        have HCX9 := Lib.hid (HCX8.out.calls hb9)
        clear hb9 HGB8 HGC8 HGD8 HCX8 HGO8 HOS
        go_wp2_with fail
        obtain ⟨q9, hq9⟩ := HCX9.out.tk
        refine (mix_any u A2 c2 N2 q9 z2 p m n (.slice Aa m ca) F w9 (by omega) (by omega) (by omega) hn1 (by omega) hN2 hq9 (HCX9.out.g.more fun b hb => ⟨hb.2, by have := hb.1; omega⟩) HFA.out).mono ?_
        rintro e w10 ⟨r, y, q10, rfl, hrv, hq10, ht10⟩
        have hrf := hrv.form
        obtain ⟨A10, c10, rfl, -⟩ := hrf
        have HV10 := Lib.hid (hrv.more (S' := (· < w10.heap.size)) fun _ h => h.2)
        have HCX10 := Lib.hid (HCX9.out.turns hwu ht10 hq10)
        have HGB10 := Lib.hid (grid_far HGB9.out ht10)
        have HGC10 := Lib.hid (grid_far HGC9.out ht10)
        have HGD10 := Lib.hid (grid_far HGD9.out ht10)
        have hin : inB p (n : Int).toNat (elimL p (n : Int).toNat m F) (mixF p y F m) = true := by rw [Int.toNat_natCast]; exact span_in (by omega) HIV.out (mix_span y m (Nat.le_refl _))
        have HIN := Lib.hid hin
        clear hrv hq10 ht10 hq9 hin HCX9 HGB9 HGC9 HGD9
        go_wp2_with fail
        refine (In_any p n (.slice Aa m ca) (.slice A10 n c10) m n (fun _ => n) F (mixF p y F m) w10 (by omega) (by omega) (HCX10.out.g.more fun _ h => h.2) HV10.out).mono ?_
        rintro e w11 h11
        rw [HIO.out, if_pos rfl, HIN.out] at h11
        obtain ⟨rfl, hb11⟩ := h11
        have HGB11 := Lib.hid (far_calls HGB10.out hb11)
        have HGC11 := Lib.hid (far_calls HGC10.out hb11)
        have HGD11 := Lib.hid (far_calls HGD10.out hb11)
        have HCX11 := Lib.hid (HCX10.out.calls hb11)
        clear hb11 HIN HGB10 HGC10 HGD10 HCX10 HV10
        go_wp2_with fail
        refine (lists_same (.slice Ac L cc) (.slice Ab L cb) L (fun _ => n) _ _ w11 _ _ (by omega) (fun _ _ => by omega) HGC11.out HGB11.out).mono ?_
        rintro e w12 ⟨rfl, k12, hw12⟩
        rw [gridB_self]
        have HGB12 := Lib.hid (show Grid w12 (Far u w12) (.slice Ab L cb) L (fun _ => n) (basF n R) from by rw [hw12]; exact far_drew HGB11.out k12)
        have HGD12 := Lib.hid (show Grid w12 (Far u w12) (.slice Ad L cd) L (fun _ => n) (basF n R) from by rw [hw12]; exact far_drew HGD11.out k12)
        have HCX12 := Lib.hid (show Ctx w u A2 c2 N2 z2 (.slice Aa m ca) m n F w12 from by rw [hw12]; exact HCX11.out.drew k12)
        clear hw12 HGB11 HGC11 HGD11 HCX11
        go_wp2_with fail
        refine (lists_same (.slice Ad L cd) (.slice Ab L cb) L (fun _ => n) _ _ w12 _ _ (by omega) (fun _ _ => by omega) HGD12.out HGB12.out).mono ?_
        rintro e w13 ⟨rfl, k13, hw13⟩
        rw [gridB_self]
        have HCX13 := Lib.hid (show Ctx w u A2 c2 N2 z2 (.slice Aa m ca) m n F w13 from by rw [hw13]; exact HCX12.out.drew k13)
        clear hw13 HGB12 HGD12 HCX12
        go_wp2_with fail
        obtain ⟨q13, hq13⟩ := HCX13.out.tk
        refine (drawn_any u A2 c2 N2 q13 z2 p 1 n w13 (by omega) (by omega) (by omega) hn1 (by omega) hN2 hq13).mono ?_
        rintro e w14 ⟨rv, H, q14, rfl, hgv, -, hq14, ht14⟩
        have hu13 := hq13.1.lt
        have HCX14 := Lib.hid (HCX13.out.turns hwu ht14 hq14)
        obtain ⟨Avv, cvv, rfl, -, hgg⟩ := hgv
        obtain ⟨bv, ov, rfl, hbv, hgc⟩ := hgg (by omega)
        obtain ⟨av, hr1, hr2⟩ := hgc 0 (by omega)
        have hrf := hr2.form
        obtain ⟨Ar, cr, rfl, -⟩ := hrf
        rw [Nat.add_zero] at hr1
        have hbv2 := hbv.2
        have hbv1 := hbv.1
        have HV14 := Lib.hid (hr2.more (S' := (· < w14.heap.size)) fun _ h => h.2)
        clear hq13 hq14 ht14 hgg hgc hr2 HCX13 hbv
        go_wp2_with fail
        refine (In_any p n (.slice Aa m ca) (.slice Ar n cr) m n (fun _ => n) F (H 0) w14 (by omega) (by omega) (HCX14.out.g.more fun _ h => h.2) HV14.out).mono ?_
        rintro e w15 h15
        rw [HIO.out, if_pos rfl, Int.toNat_natCast] at h15
        obtain ⟨rfl, hb15⟩ := h15
        have HCX15 := Lib.hid (HCX14.out.calls hb15)
        have HV15 := Lib.hid ((HV14.out.below (fun _ h => h) hb15).more (S' := (· < w15.heap.size)) fun b h => Nat.lt_of_lt_of_le h hb15.size)
        have hc15 : w15.cell? ⟨bv, ov, none⟩ = some (.slice Ar n cr) := (hb15.cell (p := ⟨bv, ov, none⟩) hbv2).trans hr1
        have hb152 : bv < w15.heap.size := Nat.lt_of_lt_of_le hbv2 hb15.size
        have HMR := Lib.hid (fun H' h1 h2 => more_rank (p := (p : Int)) (by omega) HIV.out (n := n) (m := m) (F := F) (H := H') (f := H 0) h1 h2)
        have he : elimL p n m F = elimR p n (invI p) (rowsL n F m) := rfl
        rw [HR.out] at HMR
        rw [he, HR.out]
        generalize inB p n R (H 0) = was at HMR ⊢
        clear hb15 HCX14 HV14 hr1 he
        go_wp2_with fail
        refine wp_region_held_drew (S := (fun W1 => W1.cell? ⟨bv, ov, none⟩ = some (.slice Ar n cr))) (by kernel_rfl) hc15 (fun hHeld => ?_)
        have HGY := Lib.hid (show Grid w15.drew (· < w15.drew.heap.size) (.slice Aa m ca) m (fun _ => n) F from (HCX15.out.g.more fun _ h => h.2).keep (fun _ h => h) (fun _ _ => rfl) (fun _ _ => rfl) (fun _ _ _ _ => rfl))
        have HVY := Lib.hid (show Vec w15.drew (· < w15.drew.heap.size) (.slice Ar n cr) n (H 0) from HV15.out.keep (fun _ h => h) (fun _ _ => rfl) (fun _ _ => rfl))
        have HBY := Lib.hid (show Below w.heap.size w w15.drew from HCX15.out.drew1)
        have hb15d : bv < w15.drew.heap.size := hb152
        clear hc15 hb152 HCX15 HV15
        generalize w15.drew = Y at hHeld HGY HVY HBY hb15d ⊢
        refine takeH (i := 0) (v := (.int .i64 p)) rfl rfl (by kernel_rfl) (by kernel_rfl) (by kernel_rfl) (fun _ _ _ h => h) (by rfl) (fun W hW => by (skip); go_simp) (by assumption) ?_
        simp only [List.setIfInBounds_toArray, List.set_cons_zero, List.set_cons_succ]
        refine takeH (i := 1) (v := (.int .i64 n)) rfl rfl (by kernel_rfl) (by kernel_rfl) (by kernel_rfl) (fun _ _ _ h => h) (by rfl) (fun W hW => by (skip); go_simp) (by assumption) ?_
        simp only [List.setIfInBounds_toArray, List.set_cons_zero, List.set_cons_succ]
        refine takeH (i := 2) (v := (.slice Aa m ca)) rfl rfl (by kernel_rfl) (by kernel_rfl) (by kernel_rfl) (fun _ _ _ h => h) (by rfl) (fun W hW => by (skip); go_simp) (by assumption) ?_
        simp only [List.setIfInBounds_toArray, List.set_cons_zero, List.set_cons_succ]
        refine takeH (i := 4) (v := (.slice (some ⟨bv, ov, none⟩) 1 cvv)) rfl rfl (by kernel_rfl) (by kernel_rfl) (by kernel_rfl) (fun _ _ _ h => h) (by rfl) (fun W hW => by (skip); go_simp) (by assumption) ?_
        simp only [List.setIfInBounds_toArray, List.set_cons_zero, List.set_cons_succ]
        refine takeH (i := 5) (v := (.pointer (some ⟨bv, ov, none⟩))) rfl rfl (by kernel_rfl) (by kernel_rfl) (by kernel_rfl) (fun _ _ _ h => h) (by rfl) (fun W hW => by (skip); go_simp) (by assumption) ?_
        simp only [List.setIfInBounds_toArray, List.set_cons_zero, List.set_cons_succ]
        refine takeH (i := 6) (v := (.slice Ar n cr)) rfl rfl (by kernel_rfl) (by kernel_rfl) (by kernel_rfl) (fun _ _ _ h => h) (by rfl) (fun W hW => by (skip); go_simp) (by assumption) ?_
        simp only [List.setIfInBounds_toArray, List.set_cons_zero, List.set_cons_succ]
        have hcY := hHeld
        refine wpAnyH_ready (rs := [3, 7]) (by kernel_rfl) (by simp) ?_
        refine (AllReadyH.cons rfl (fun K hK => ?_) (AllReadyH.cons rfl (fun K hK => ?_) AllReadyH.nil))
        · go_simp
          refine (own_grid Y (fun _ h => h) (by omega) HGY.out).mono ?_
          rintro e X' ⟨ro, rs, rfl, ho, hr, hb⟩
          have hmid := mid_own ho hr hb HVY.out
          obtain ⟨Ao, co, rfl⟩ := owned_form ho
          have hcX := hb.cell (p := ⟨bv, ov, none⟩) hb15d |>.trans hcY
          clear ho hr hb hHeld
          dsimp only
          refine hK.out _ _ hcX (fun hHeld => ?_)
          clear hK K
          try simp only [Act.put, List.setIfInBounds_toArray, List.set_cons_zero, List.set_cons_succ]
          refine wpAnyH_ready (rs := [7]) (by kernel_rfl) (by simp) ?_
          refine (AllReadyH.cons rfl (fun K hK => ?_) AllReadyH.nil)
          go_simp
          have hcX2 := hmid.be.cell (p := ⟨bv, ov, none⟩) hb15d |>.trans hcY
          clear hHeld hcX
          refine hK.out _ _ hcX2 (fun hHeld => ?_)
          clear hK K
          try simp only [Act.put, List.setIfInBounds_toArray, List.set_cons_zero, List.set_cons_succ]
          have HMN := Lib.hid hmid
          have hcZ := hmid.be.cell (p := ⟨bv, ov, none⟩) hb15d |>.trans hcY
          refine wpAnyH_ready (rs := [8]) (by kernel_rfl) (by simp) ?_
          refine (AllReadyH.cons rfl (fun K hK => ?_) AllReadyH.nil)
          refine op_append_own (.tmp 187) (.tmp 191) 29 rfl Y.heap.size 22 j0 (.slice none 0 0) 1 24 Try.underlying29 hj0 hy0 hy1 hy2 rfl (by decide) _ _ _ rfl hmid.own ⟨X'.heap.size, 0, none⟩ 1 1 [.slice Ar n cr] rfl rfl (cell_one_at hmid.cell) (by simp [Value.oneCell']) (by unfold maxLen; omega) (by omega) hmid.bs1 ?_
          intro v' Z2 hown hgr _
          obtain ⟨hgz, hbz⟩ := hmid.next hown hgr
          obtain ⟨g3, c3, rfl⟩ := ownsRow_succ hown
          have HGZ := Lib.hid hgz
          have HBZ := Lib.hid hbz
          have hcZ2 := hbz.cell (p := ⟨bv, ov, none⟩) hb15d |>.trans hcY
          clear hown hgr hgz hbz hmid HMN hcZ
          go_simp
          refine hK.out _ _ hcZ2 (fun hHeld => ?_)
          clear hK K
          try simp only [Act.put, List.setIfInBounds_toArray, List.set_cons_zero, List.set_cons_succ]
          refine wpAnyH_ready (rs := [9]) (by kernel_rfl) (by simp) ?_
          refine (AllReadyH.cons rfl (fun K hK => ?_) AllReadyH.nil)
          go_simp
          refine (Rank_any p n (.slice (some ⟨g3, 0, none⟩) (m + 1) c3) (m + 1) (fun _ => n) (fun i => if i < m then F i else H 0) Z2 (by omega) HGZ.out).mono ?_
          rintro e w16 ⟨y2, rfl, -, hy2', hb16⟩
          have hy3 := hy2' (HBO.out (m + 1) (by omega))
          rw [Int.toNat_natCast] at hy3
          change y2 = (pivL n (elimR p n (invI p) (rowsL n (fun i => if i < m then F i else H 0) (m + 1)))).length at hy3
          have hmr := HMR.out (fun i => if i < m then F i else H 0) (fun i hi j _ => by rw [if_pos hi]) (fun j _ => by rw [if_neg (Nat.lt_irrefl _)])
          rw [HL.out] at hmr
          generalize (pivL n (elimR p n (invI p) (rowsL n (fun i => if i < m then F i else H 0) (m + 1)))).length = L2 at hy3 hmr
          subst hy3
          rw [HBO.out (m + 1) (by omega)]
          have HB16 := Lib.hid (HBY.out.trans ((HBZ.out.trans (hb16.mono HBZ.out.size)).mono HBY.out.size))
          have hcZ3 := (HBZ.out.trans (hb16.mono HBZ.out.size)).cell (p := ⟨bv, ov, none⟩) hb15d |>.trans hcY
          clear hy2' hb16 HGZ HBZ hHeld
          dsimp only
          refine hK.out _ _ hcZ3 (fun hHeld => ?_)
          clear hK K
          try simp only [Act.put, List.setIfInBounds_toArray, List.set_cons_zero, List.set_cons_succ]
          refine takeH (i := 10) (v := (.tuple #[.int .i64 L2, .int .i64 0])) rfl rfl (by kernel_rfl) (by kernel_rfl) (by kernel_rfl) (fun _ _ _ h => h) (by rfl) (fun W hW => by (skip); go_simp) (by assumption) ?_
          simp only [List.setIfInBounds_toArray, List.set_cons_zero, List.set_cons_succ]
          refine takeH (i := 11) (v := (.int .i64 L2)) rfl rfl (by kernel_rfl) (by kernel_rfl) (by kernel_rfl) (fun _ _ _ h => h) (by rfl) (fun W hW => by (skip); go_simp) (by assumption) ?_
          simp only [List.setIfInBounds_toArray, List.set_cons_zero, List.set_cons_succ]
          refine takeH (i := 12) (v := (.int .i64 0)) rfl rfl (by kernel_rfl) (by kernel_rfl) (by kernel_rfl) (fun _ _ _ h => h) (by rfl) (fun W hW => by (skip); go_simp) (by assumption) ?_
          simp only [List.setIfInBounds_toArray, List.set_cons_zero, List.set_cons_succ]
          refine takeH (i := 13) (v := (.int .i64 L2)) rfl rfl (by kernel_rfl) (by kernel_rfl) (by kernel_rfl) (fun _ _ _ h => h) (by rfl) (fun W hW => by (skip); go_simp) (by assumption) ?_
          simp only [List.setIfInBounds_toArray, List.set_cons_zero, List.set_cons_succ]
          refine takeH (i := 14) (v := (.int .i64 0)) rfl rfl (by kernel_rfl) (by kernel_rfl) (by kernel_rfl) (fun _ _ _ h => h) (by rfl) (fun W hW => by (skip); go_simp) (by assumption) ?_
          simp only [List.setIfInBounds_toArray, List.set_cons_zero, List.set_cons_succ]
          refine wpAnyH_done (by kernel_rfl) ?_ _
          go_wp2_with fail
          rw [beq_nat]
          go_ret
          exact ⟨rfl, HB16.out⟩
        · go_simp
          have hcX := ((Below.refl Y.heap.size Y).alloc (Nat.le_refl _) (.cells #[.slice Ar n cr] 22)).cell (p := ⟨bv, ov, none⟩) hb15d |>.trans hcY
          clear hHeld
          refine hK.out _ _ hcX (fun hHeld => ?_)
          clear hK K
          try simp only [Act.put, List.setIfInBounds_toArray, List.set_cons_zero, List.set_cons_succ]
          refine wpAnyH_ready (rs := [3]) (by kernel_rfl) (by simp) ?_
          refine (AllReadyH.cons rfl (fun K hK => ?_) AllReadyH.nil)
          go_simp
          refine (own_grid (S := (· < Y.heap.size)) (Y.alloc (.cells #[.slice Ar n cr] 22)) (fun b (h : b < Y.heap.size) => by simp; omega) (by omega) (HGY.out.below (fun _ h => h) ((Below.refl Y.heap.size Y).alloc (Nat.le_refl _) (.cells #[.slice Ar n cr] 22)))).mono ?_
          rintro e X' ⟨ro, rs, rfl, ho, hr, hb⟩
          have hmid := mid_new ho hr hb HVY.out
          obtain ⟨Ao, co, rfl⟩ := owned_form ho
          have hcX2 := hmid.be.cell (p := ⟨bv, ov, none⟩) hb15d |>.trans hcY
          clear ho hr hb hHeld hcX
          dsimp only
          refine hK.out _ _ hcX2 (fun hHeld => ?_)
          clear hK K
          try simp only [Act.put, List.setIfInBounds_toArray, List.set_cons_zero, List.set_cons_succ]
          have HMN := Lib.hid hmid
          have hcZ := hmid.be.cell (p := ⟨bv, ov, none⟩) hb15d |>.trans hcY
          refine wpAnyH_ready (rs := [8]) (by kernel_rfl) (by simp) ?_
          refine (AllReadyH.cons rfl (fun K hK => ?_) AllReadyH.nil)
          refine op_append_own (.tmp 187) (.tmp 191) 29 rfl (Y.alloc (.cells #[.slice Ar n cr] 22)).heap.size 22 j0 (.slice none 0 0) 1 24 Try.underlying29 hj0 hy0 hy1 hy2 rfl (by decide) _ _ _ rfl hmid.own ⟨Y.heap.size, 0, none⟩ 1 1 [.slice Ar n cr] rfl rfl (cell_one_at hmid.cell) (by simp [Value.oneCell']) (by unfold maxLen; omega) (by omega) hmid.bs1 ?_
          intro v' Z2 hown hgr _
          obtain ⟨hgz, hbz⟩ := hmid.next hown hgr
          obtain ⟨g3, c3, rfl⟩ := ownsRow_succ hown
          have HGZ := Lib.hid hgz
          have HBZ := Lib.hid hbz
          have hcZ2 := hbz.cell (p := ⟨bv, ov, none⟩) hb15d |>.trans hcY
          clear hown hgr hgz hbz hmid HMN hcZ
          go_simp
          refine hK.out _ _ hcZ2 (fun hHeld => ?_)
          clear hK K
          try simp only [Act.put, List.setIfInBounds_toArray, List.set_cons_zero, List.set_cons_succ]
          refine wpAnyH_ready (rs := [9]) (by kernel_rfl) (by simp) ?_
          refine (AllReadyH.cons rfl (fun K hK => ?_) AllReadyH.nil)
          go_simp
          refine (Rank_any p n (.slice (some ⟨g3, 0, none⟩) (m + 1) c3) (m + 1) (fun _ => n) (fun i => if i < m then F i else H 0) Z2 (by omega) HGZ.out).mono ?_
          rintro e w16 ⟨y2, rfl, -, hy2', hb16⟩
          have hy3 := hy2' (HBO.out (m + 1) (by omega))
          rw [Int.toNat_natCast] at hy3
          change y2 = (pivL n (elimR p n (invI p) (rowsL n (fun i => if i < m then F i else H 0) (m + 1)))).length at hy3
          have hmr := HMR.out (fun i => if i < m then F i else H 0) (fun i hi j _ => by rw [if_pos hi]) (fun j _ => by rw [if_neg (Nat.lt_irrefl _)])
          rw [HL.out] at hmr
          generalize (pivL n (elimR p n (invI p) (rowsL n (fun i => if i < m then F i else H 0) (m + 1)))).length = L2 at hy3 hmr
          subst hy3
          rw [HBO.out (m + 1) (by omega)]
          have HB16 := Lib.hid (HBY.out.trans ((HBZ.out.trans (hb16.mono HBZ.out.size)).mono HBY.out.size))
          have hcZ3 := (HBZ.out.trans (hb16.mono HBZ.out.size)).cell (p := ⟨bv, ov, none⟩) hb15d |>.trans hcY
          clear hy2' hb16 HGZ HBZ hHeld
          dsimp only
          refine hK.out _ _ hcZ3 (fun hHeld => ?_)
          clear hK K
          try simp only [Act.put, List.setIfInBounds_toArray, List.set_cons_zero, List.set_cons_succ]
          refine takeH (i := 10) (v := (.tuple #[.int .i64 L2, .int .i64 0])) rfl rfl (by kernel_rfl) (by kernel_rfl) (by kernel_rfl) (fun _ _ _ h => h) (by rfl) (fun W hW => by (skip); go_simp) (by assumption) ?_
          simp only [List.setIfInBounds_toArray, List.set_cons_zero, List.set_cons_succ]
          refine takeH (i := 11) (v := (.int .i64 L2)) rfl rfl (by kernel_rfl) (by kernel_rfl) (by kernel_rfl) (fun _ _ _ h => h) (by rfl) (fun W hW => by (skip); go_simp) (by assumption) ?_
          simp only [List.setIfInBounds_toArray, List.set_cons_zero, List.set_cons_succ]
          refine takeH (i := 12) (v := (.int .i64 0)) rfl rfl (by kernel_rfl) (by kernel_rfl) (by kernel_rfl) (fun _ _ _ h => h) (by rfl) (fun W hW => by (skip); go_simp) (by assumption) ?_
          simp only [List.setIfInBounds_toArray, List.set_cons_zero, List.set_cons_succ]
          refine takeH (i := 13) (v := (.int .i64 L2)) rfl rfl (by kernel_rfl) (by kernel_rfl) (by kernel_rfl) (fun _ _ _ h => h) (by rfl) (fun W hW => by (skip); go_simp) (by assumption) ?_
          simp only [List.setIfInBounds_toArray, List.set_cons_zero, List.set_cons_succ]
          refine takeH (i := 14) (v := (.int .i64 0)) rfl rfl (by kernel_rfl) (by kernel_rfl) (by kernel_rfl) (fun _ _ _ h => h) (by rfl) (fun W hW => by (skip); go_simp) (by assumption) ?_
          simp only [List.setIfInBounds_toArray, List.set_cons_zero, List.set_cons_succ]
          refine wpAnyH_done (by kernel_rfl) ?_ _
          go_wp2_with fail
          rw [beq_nat]
          go_ret
          exact ⟨rfl, HB16.out⟩
end Go.Proofs.Ytanhgkpldjpkoaa
