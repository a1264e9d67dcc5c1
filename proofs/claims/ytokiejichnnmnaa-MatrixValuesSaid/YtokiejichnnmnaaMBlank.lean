/- The reference of matrix: blank; matrices that are being written. -/
import Derived.Test.YtokiejichnnmnaaMRefA
import Derived.Test.YtokiejichnnmnaaMFound
import Derived.Test.YtokiejichnnmnaaMPowI
import Derived.Maps.AppendAt
import Derived.BigRegion
import Derived.OwnWalk
namespace Go.Proofs.Ytokiejichnnmnaa
open Go Go.RowKit Num

theorem setCell2_lo {B : Nat} {w W : World} (h : Below B w W) {g : Nat} (hg : B ≤ g) (x y : Value) : Below B w ((W.setCell ⟨g, 0, none⟩ x).setCell ⟨g, 1, none⟩ y) := (h.setCell (p := ⟨g, 0, none⟩) hg x).setCell (p := ⟨g, 1, none⟩) hg y
theorem owned_form {w : World} {B n : Nat} {e : TypeId} {v : Value} {xs : List Value} (h : w.ownsRow B e 1 v n xs) : ∃ A c, v = .slice A n c := by
  rcases h.2 with ⟨rfl, h0⟩ | ⟨g, cap, cur, rfl, _⟩
  · exact ⟨none, 0, by rw [h0]⟩
  · exact ⟨_, cap, rfl⟩
theorem op_append_own {P : Program} {w : World} {o : Oper} {a : Act} {K : Act → World → Prop} {Q : Exit → Act → World → Prop} (s x : Operand) (t : TypeId)
    (ho : o.op = .call { callee := .builtin .append, args := #[s, x], argTypes := #[t, t] })
    (base : Nat) (e : TypeId) (i : TypeInfo) (z : Value) (size bytes : Nat) (ht : P.underlying t = some (.slice e)) (hi : P.info? e = some i) (hz : i.zero = some z)
    (hsize : i.size = size) (hby : i.bytes = bytes) (hzs : z.cells.size = size) (hsz : 0 < size)
    (v : Value) (n : Nat) (xs : List Value) (hs : a.eval s = v) (hown : w.ownsRow base e size v n xs)
    (ad : Addr) (m c : Nat) (news : List Value) (hx : a.eval x = .slice (some ad) m c) (hl : news.length = m * size) (hnews : ∀ j u, news[j]? = some u → w.cell? (ad.add j) = some u) (h1 : ∀ u ∈ news, u.oneCell' = true)
    (h63 : n + m ≤ maxLen) (hbytes : (n + m) * bytes ≤ 140737488355328) (hbase : base ≤ w.heap.size)
    (h : ∀ v' w', w'.ownsRow base e size v' (n + m) (xs ++ news) → w.grownBy w' v.ownBlock → (v'.ownBlock = v.ownBlock ∨ v'.ownBlock = some w.heap.size) → K (a.put o.dst v') w') : o.wp P a w K Q := by
  obtain ⟨v', w', hr, h2, h3, _, h5⟩ := run_append_own_at (P := P) w base t o.type e i z size bytes ht hi hz hsize hby hzs hsz v n xs hown ad m c news hl hnews h1 h63 hbytes hbase
  unfold Oper.wp execOp
  simp only [ho, resolve, invoke, builtin, Sem.run_bind, Sem.run_pure, Result.andThen_ok, List.map_toArray, List.map_cons, List.map_nil, hs, hx, hr]
  exact h v' w' h2 h3 h5

/-- A matrix with rows of its own: v reads as m rows of n ints F. -/
def WrM (w : World) (lo : Nat) (v : Value) (m n : Nat) (F : Nat → Nat → Int) : Prop :=
  ∃ (g cap : Nat) (rb : Nat → Nat), v = .slice (some ⟨g, 0, none⟩) m cap ∧ m ≤ cap ∧ lo ≤ g ∧ g < w.heap.size ∧ (∀ i, i < m → w.cell? ⟨g, i, none⟩ = some (.slice (some ⟨rb i, 0, none⟩) n n)) ∧
    (∀ i, i < m → lo ≤ rb i ∧ rb i ≠ g ∧ Row w (rb i) 3 (CTab n (iv (F i)))) ∧ ∀ i j, i < m → j < m → rb i = rb j → i = j
theorem WrM.grid {w : World} {lo : Nat} {v : Value} {m n : Nat} {F : Nat → Nat → Int} (h : WrM w lo v m n F) : Grid w (fun b => lo ≤ b ∧ b < w.heap.size) v m (fun _ => n) F := by
  obtain ⟨g, cap, rb, rfl, hc, hl, hg, hh, hr, _⟩ := h
  exact ⟨_, cap, rfl, hc, fun _ => ⟨g, 0, rfl, ⟨hl, hg⟩, fun i hi => ⟨_, by rw [Nat.zero_add]; exact hh i hi, (hr i hi).2.2.vec ⟨(hr i hi).1, (hr i hi).2.2.lt⟩ (Nat.le_refl _)⟩⟩⟩
theorem WrM.below {w w' : World} {lo : Nat} {v : Value} {m n : Nat} {F : Nat → Nat → Int} (h : WrM w lo v m n F) (hb : Below w.heap.size w w') : WrM w' lo v m n F := by
  obtain ⟨g, cap, rb, rfl, hc, hl, hg, hh, hr, hi⟩ := h
  exact ⟨g, cap, rb, rfl, hc, hl, Nat.lt_of_lt_of_le hg hb.size, fun i hi => (hb.cell (p := ⟨g, i, none⟩) hg).trans (hh i hi), fun i hi => ⟨(hr i hi).1, (hr i hi).2.1, (hr i hi).2.2.below hb (hr i hi).2.2.lt⟩, hi⟩
/-- An entry is written. -/
def updF (F : Nat → Nat → Int) (i k : Nat) (x : Int) (a b : Nat) : Int := if a = i ∧ b = k then x else F a b
theorem WrM.at_ {w : World} {lo : Nat} {v : Value} {m n : Nat} {F : Nat → Nat → Int} (h : WrM w lo v m n F) : ∃ (g cap : Nat) (rb : Nat → Nat), v = .slice (some ⟨g, 0, none⟩) m cap ∧ ∀ i, i < m → w.cell? ⟨g, i, none⟩ = some (.slice (some ⟨rb i, 0, none⟩) n n) ∧
    ∀ k, k < n → w.cell? ⟨rb i, k, none⟩ = some (.int .i64 (F i k)) ∧ w.frozen? ⟨rb i, k, none⟩ = false ∧ lo ≤ rb i ∧ ∀ x, WrM (w.setCell ⟨rb i, k, none⟩ (.int .i64 x)) lo v m n (updF F i k x) := by
  obtain ⟨g, cap, rb, rfl, hc, hl, hg, hh, hr, hinj⟩ := h
  refine ⟨g, cap, rb, rfl, fun i hi => ⟨hh i hi, fun k hk => ⟨(hr i hi).2.2.cell (CTab_get _ _ k hk), (hr i hi).2.2.frozen k, (hr i hi).1, fun x => ?_⟩⟩⟩
  refine ⟨g, cap, rb, rfl, hc, hl, by rw [size_set]; exact hg, fun a ha => (World.cell?_setCell_far _ _ _ _ (show rb i ≠ g from (hr i hi).2.1)).trans (hh a ha), fun a ha => ⟨(hr a ha).1, (hr a ha).2.1, ?_⟩, hinj⟩
  by_cases e : a = i
  · subst e
    have := (hr a ha).2.2.set k (.int .i64 x)
    rw [CTab_set] at this
    have e2 : CTab n (fun j => if j = k then (.int .i64 x) else iv (F a) j) = CTab n (iv (updF F a k x a)) := CTab_congr _ _ _ fun j _ => by
      unfold iv updF
      by_cases h : j = k
      · rw [if_pos h, if_pos ⟨rfl, h⟩]
      · rw [if_neg h, if_neg fun e => h e.2]
    rwa [e2] at this
  · have h1 := (hr a ha).2.2.far (p := ⟨rb i, k, none⟩) (show rb a ≠ rb i from fun h => e (hinj a i ha hi h)) (.int .i64 x)
    have e2 : CTab n (iv (F a)) = CTab n (iv (updF F i k x a)) := CTab_congr _ _ _ fun j _ => by
      unfold iv updF
      rw [if_neg fun h => e h.1]
    rwa [e2] at h1
theorem WrM.congr {w : World} {lo : Nat} {v : Value} {m n : Nat} {F G : Nat → Nat → Int} (h : WrM w lo v m n F) (hf : ∀ i, i < m → ∀ j, j < n → F i j = G i j) : WrM w lo v m n G := by
  obtain ⟨g, cap, rb, rfl, hc, hl, hg, hh, hr, hi⟩ := h
  refine ⟨g, cap, rb, rfl, hc, hl, hg, hh, fun i hi => ⟨(hr i hi).1, (hr i hi).2.1, ?_⟩, hi⟩
  rw [← CTab_congr n (iv (F i)) (iv (G i)) fun j hj => by unfold iv; rw [hf i hi j hj]]
  exact (hr i hi).2.2

/-- Between two rows of zeros. -/
structure BlkI (w : World) (p : Int) (m n i : Nat) (wr : World) : Prop where
  le : i ≤ m
  b : Below w.heap.size w wr
  sz : w.heap.size + 1 + 1 ≤ wr.heap.size
  res : Row wr w.heap.size 61 #[.int .i64 0, .slice none 0 0]
  rows : ∃ (v : Value) (rb : Nat → Nat), Row wr (w.heap.size + 1) 61 #[.int .i64 p, v] ∧ wr.ownsRow (w.heap.size + 1 + 1) 28 1 v i ((List.range i).map fun j => .slice (some ⟨rb j, 0, none⟩) n n) ∧
    (∀ j, j < i → w.heap.size + 1 + 1 ≤ rb j ∧ rb j < wr.heap.size ∧ v.ownBlock ≠ some (rb j) ∧ Row wr (rb j) 3 (CTab n fun _ => .int .i64 0)) ∧ ∀ j k, j < k → k < i → rb j < rb k
theorem blk_start (w : World) (p : Int) (m n : Nat) : BlkI w p m n 0 ((w.alloc (.cells #[.int .i64 0, .slice none 0 0] 61)).alloc (.cells #[.int .i64 p, .slice none 0 0] 61)) :=
  ⟨Nat.zero_le _, ((Below.refl w.heap.size w).alloc (Nat.le_refl _) _).alloc (by simp) _, by simp, (row_new rfl _ _).alloc _, .slice none 0 0, fun _ => 0, row_new (by simp) _ _, World.ownsRow_nil _ _ _ _, fun j hj => absurd hj (by omega), fun j k _ hk => absurd hk (by omega)⟩
theorem BlkI.drew {w wr : World} {p : Int} {m n i : Nat} (h : BlkI w p m n i wr) : BlkI w p m n i wr.drew := ⟨h.le, below_drew h.b, h.sz, h.res, h.rows⟩
theorem blk_step {w wq w3 : World} {p : Int} {m n i : Nat} {v v1 : Value} {rb : Nat → Nat} (h : BlkI w p m n i wq) (hi : i < m) (hr : Row wq (w.heap.size + 1) 61 #[.int .i64 p, v])
    (hO : wq.ownsRow (w.heap.size + 1 + 1) 28 1 v i ((List.range i).map fun j => .slice (some ⟨rb j, 0, none⟩) n n))
    (hV : ∀ j, j < i → w.heap.size + 1 + 1 ≤ rb j ∧ rb j < wq.heap.size ∧ v.ownBlock ≠ some (rb j) ∧ Row wq (rb j) 3 (CTab n fun _ => .int .i64 0)) (hM : ∀ j k, j < k → k < i → rb j < rb k)
    (hown : w3.ownsRow (w.heap.size + 1 + 1) 28 1 v1 (i + 1) (((List.range i).map fun j => .slice (some ⟨rb j, 0, none⟩) n n) ++ [.slice (some ⟨wq.heap.size, 0, none⟩) n n]))
    (hg : ((wq.alloc (.cells (CTab n fun _ => .int .i64 0) 3)).alloc (.cells #[.slice (some ⟨wq.heap.size, 0, none⟩) n n] 28)).grownBy w3 v.ownBlock)
    (hv1 : v1.ownBlock = v.ownBlock ∨ v1.ownBlock = some ((wq.alloc (.cells (CTab n fun _ => .int .i64 0) 3)).alloc (.cells #[.slice (some ⟨wq.heap.size, 0, none⟩) n n] 28)).heap.size) :
    BlkI w p m n (i + 1) (w3.setCell ⟨w.heap.size + 1, 1, none⟩ v1) := by
  have hsz := h.sz
  have hz2 : ((wq.alloc (.cells (CTab n fun _ => .int .i64 0) 3)).alloc (.cells #[.slice (some ⟨wq.heap.size, 0, none⟩) n n] 28)).heap.size = wq.heap.size + 1 + 1 := by simp
  have hsz3 := hg.size
  have hOlt := hO.lt
  have hB2 : Below w.heap.size wq ((wq.alloc (.cells (CTab n fun _ => .int .i64 0) 3)).alloc (.cells #[.slice (some ⟨wq.heap.size, 0, none⟩) n n] 28)) := ((Below.refl w.heap.size wq).alloc (by omega) _).alloc (by simp; omega) _
  have hB3 : Below w.heap.size wq w3 := hB2.grown hg (by omega) (fun q hq => by have := hOlt q hq; omega)
  have hBs : Below w.heap.size wq (w3.setCell ⟨w.heap.size + 1, 1, none⟩ v1) := hB3.setCell (p := ⟨w.heap.size + 1, 1, none⟩) (by show w.heap.size ≤ w.heap.size + 1; omega) _
  have hsize : (w3.setCell ⟨w.heap.size + 1, 1, none⟩ v1).heap.size = w3.heap.size := size_set _ _ _
  have keep : ∀ b t cs, Row wq b t cs → b ≠ w.heap.size + 1 → v.ownBlock ≠ some b → Row (w3.setCell ⟨w.heap.size + 1, 1, none⟩ v1) b t cs := fun b t cs hr hb hv =>
    (((hr.alloc (.cells (CTab n fun _ => .int .i64 0) 3)).alloc (.cells #[.slice (some ⟨wq.heap.size, 0, none⟩) n n] 28)).kept hg (fun e => hv e.symm)).far (p := ⟨w.heap.size + 1, 1, none⟩) hb v1
  have hvR : v.ownBlock ≠ some (w.heap.size + 1) := fun e => by have := hOlt _ e; omega
  have hvR0 : v.ownBlock ≠ some w.heap.size := fun e => by have := hOlt _ e; omega
  have hrow3 : Row w3 (w.heap.size + 1) 61 #[.int .i64 p, v] := ((hr.alloc (.cells (CTab n fun _ => .int .i64 0) 3)).alloc (.cells #[.slice (some ⟨wq.heap.size, 0, none⟩) n n] 28)).kept hg (fun e => hvR e.symm)
  have hnew : Row (w3.setCell ⟨w.heap.size + 1, 1, none⟩ v1) wq.heap.size 3 (CTab n fun _ => .int .i64 0) :=
    (((row_new (W := wq) rfl 3 (CTab n fun _ => .int .i64 0)).alloc (.cells #[.slice (some ⟨wq.heap.size, 0, none⟩) n n] 28)).kept hg (fun e => by have := hOlt _ e.symm; omega)).far (p := ⟨w.heap.size + 1, 1, none⟩) (by show wq.heap.size ≠ w.heap.size + 1; omega) v1
  have hv1b : ∀ b, b < wq.heap.size + 1 → v.ownBlock ≠ some b → v1.ownBlock ≠ some b := fun b h1 h2 e => by
    rcases hv1 with h | h
    · exact h2 (h ▸ e)
    · rw [h, hz2] at e; injection e with e; omega
  refine ⟨by omega, h.b.trans hBs, by rw [hsize]; omega, keep _ _ _ h.res (by omega) hvR0, v1, (fun j => if j = i then wq.heap.size else rb j), hrow3.set 1 v1, ?_, fun j hj => ?_, fun j k hjk hk => ?_⟩
  · have e : ((List.range (i + 1)).map fun j => Value.slice (some ⟨if j = i then wq.heap.size else rb j, 0, none⟩) n n) = ((List.range i).map fun j => .slice (some ⟨rb j, 0, none⟩) n n) ++ [.slice (some ⟨wq.heap.size, 0, none⟩) n n] := by
      rw [List.range_succ, List.map_append]
      congr 1
      · refine List.map_congr_left fun j hj => ?_
        have := List.mem_range.1 hj
        rw [if_neg (by omega)]
      · simp
    show (w3.setCell _ _).ownsRow _ _ _ _ _ ((List.range (i + 1)).map fun j => Value.slice (some ⟨if j = i then wq.heap.size else rb j, 0, none⟩) n n)
    rw [e]
    exact ownsRow_setCell_below hown (by show w.heap.size + 1 < _; omega) v1
  · show w.heap.size + 1 + 1 ≤ (if j = i then wq.heap.size else rb j) ∧ (if j = i then wq.heap.size else rb j) < _ ∧ v1.ownBlock ≠ some (if j = i then wq.heap.size else rb j) ∧ Row _ (if j = i then wq.heap.size else rb j) _ _
    by_cases e : j = i
    · rw [if_pos e]
      exact ⟨by omega, by rw [hsize]; omega, hv1b _ (by omega) (fun e => by have := hOlt _ e; omega), hnew⟩
    · rw [if_neg e]
      obtain ⟨h1, h2, h3, h4⟩ := hV j (by omega)
      exact ⟨h1, by rw [hsize]; omega, hv1b _ (by omega) h3, keep _ _ _ h4 (by omega) h3⟩
  · show (if j = i then wq.heap.size else rb j) < (if k = i then wq.heap.size else rb k)
    rw [if_neg (by omega)]
    by_cases e : k = i
    · rw [if_pos e]; exact (hV j (by omega)).2.1
    · rw [if_neg e]; exact hM j k hjk (by omega)
/-- A matrix that one may write. -/
def GivesW (w : World) (p : Int) (m n : Nat) (F : Nat → Nat → Int) (e : Ending) (w' : World) : Prop := ∃ v, e = .returned (.agg #[.int .i64 p, v]) ∧ WrM w' w.heap.size v m n F ∧ Below w.heap.size w w'
theorem blk_end {w wr : World} {p : Int} {m n : Nat} {v : Value} {rb : Nat → Nat} (hm : 1 ≤ m) (h : BlkI w p m n m wr)
    (hO : wr.ownsRow (w.heap.size + 1 + 1) 28 1 v m ((List.range m).map fun j => .slice (some ⟨rb j, 0, none⟩) n n))
    (hV : ∀ j, j < m → w.heap.size + 1 + 1 ≤ rb j ∧ rb j < wr.heap.size ∧ v.ownBlock ≠ some (rb j) ∧ Row wr (rb j) 3 (CTab n fun _ => .int .i64 0)) (hM : ∀ j k, j < k → k < m → rb j < rb k) :
    GivesW w p m n (fun _ _ => 0) (.returned (.agg #[.int .i64 p, v])) ((wr.setCell ⟨w.heap.size, 0, none⟩ (.int .i64 p)).setCell ⟨w.heap.size, 1, none⟩ v) := by
  have hs2 := size_set2 wr ⟨w.heap.size, 0, none⟩ ⟨w.heap.size, 1, none⟩ (.int .i64 p) v
  refine ⟨v, rfl, ?_, setCell2_lo h.b (Nat.le_refl _) _ _⟩
  rcases hO.2 with ⟨rfl, h0⟩ | ⟨g, cap, cur, rfl, hb, hg, hnc, _⟩
  · exact absurd h0 (by omega)
  · have hlt := hO.lt g rfl
    refine ⟨g, cap, rb, rfl, hnc, by omega, by rw [hs2]; omega, fun i hi => ?_, fun i hi => ?_, fun i j hi hj e => ?_⟩
    · have := World.ownsRow.cells hO (g := g) rfl i (.slice (some ⟨rb i, 0, none⟩) n n) (by simp [hi])
      rw [Addr.add_lit, Nat.zero_add] at this
      rw [World.cell?_setCell_far _ _ _ _ (show w.heap.size ≠ g by omega), World.cell?_setCell_far _ _ _ _ (show w.heap.size ≠ g by omega)]
      exact this
    · obtain ⟨h1, h2, h3, h4⟩ := hV i hi
      exact ⟨by omega, fun e => h3 (by rw [e]; rfl), (h4.far (p := ⟨w.heap.size, 0, none⟩) (show rb i ≠ w.heap.size by omega) _).far (p := ⟨w.heap.size, 1, none⟩) (show rb i ≠ w.heap.size by omega) _⟩
    · rcases Nat.lt_trichotomy i j with h | h | h
      · have := hM i j h hj; omega
      · exact h
      · have := hM j i h hi; omega

set_option maxRecDepth 100000 in
set_option maxHeartbeats 2000000 in
theorem blank_any (p : Int) (m n : Nat) (w : World) (hm1 : 1 ≤ m) (hm : m ≤ 1000) (hn : n ≤ 1000) : Calls Try.prog 165 #[.int .i64 p, .int .i64 m, .int .i64 n] w (GivesW w p m n fun _ _ => 0) := by
  obtain ⟨j0, hj0, hy0, hy1, hy2⟩ := info_parts info27m
  have hmk := fun W => make_ints n (by omega) W
  have HS := Lib.hid (blk_start w p m n)
  go_enter Try.func165, Try.ntmps165
  go_wp2
  go_loopw [8] (fun i wr => ∃ k : Nat, i = .int .i64 k ∧ BlkI w p m n k wr) (fun i _ => m - (intOf i).toNat)
  case atStart => exact ⟨0, rfl, HS.out⟩
  case round =>
    obtain ⟨i, rfl, hI⟩ := hrel
    have hle := hI.le
    by_cases hlt : i < m
    · have hd : decide ((i : Int) < (m : Int)) = true := decide_eq_true (by omega)
      obtain ⟨v, rb, hr, hO, hV, hM⟩ := hI.rows
      have hc1 : wr.cell? ⟨w.heap.size + 1, 1, none⟩ = some v := hr.cell (i := 1) rfl
      have HI := Lib.hid hI
      have HR := Lib.hid hr
      have HO := Lib.hid hO
      have HV := Lib.hid hV
      have HM := Lib.hid hM
      have hb1 : w.heap.size + 1 + 1 ≤ wr.heap.size := hI.sz
      have hlim : i + 1 ≤ 1001 := by omega
      have HO2 := Lib.hid (show (((wr.alloc (.cells (CTab n fun _ => .int .i64 0) 3)).alloc (.cells #[.slice (some ⟨wr.heap.size, 0, none⟩) n n] 28)).drew).ownsRow _ _ _ _ _ _ from (hO.alloc (.cells (CTab n fun _ => .int .i64 0) 3)).alloc (.cells #[.slice (some ⟨wr.heap.size, 0, none⟩) n n] 28))
      have HCN := Lib.hid (show ∀ j u, [Value.slice (some ⟨wr.heap.size, 0, none⟩) n n][j]? = some u → (((wr.alloc (.cells (CTab n fun _ => .int .i64 0) 3)).alloc (.cells #[.slice (some ⟨wr.heap.size, 0, none⟩) n n] 28)).drew).cell? ((⟨wr.heap.size + 1, 0, none⟩ : Addr).add j) = some u from fun j u h => by
        have := cell_one_new (wr.alloc (.cells (CTab n fun _ => .int .i64 0) 3)) (.slice (some ⟨wr.heap.size, 0, none⟩) n n) 28 j u h
        rw [show (wr.alloc (.cells (CTab n fun _ => .int .i64 0) 3)).heap.size = wr.heap.size + 1 by simp] at this
        exact this)
      have HKA := Lib.hid (show (wr.alloc (.cells (CTab n fun _ => .int .i64 0) 3)).drew.cell? ⟨w.heap.size + 1, 1, none⟩ = some v from (hr.alloc _).cell (i := 1) rfl)
      have HKB := Lib.hid (show ((wr.alloc (.cells (CTab n fun _ => .int .i64 0) 3)).alloc (.cells #[.slice (some ⟨wr.heap.size, 0, none⟩) n n] 28)).drew.cell? ⟨w.heap.size + 1, 1, none⟩ = some v from ((hr.alloc _).alloc _).cell (i := 1) rfl)
      have HS0 := Lib.hid (show wr.drew.cell? ⟨w.heap.size + 1, 1, none⟩ = some v from hc1)
      clear hI hr hO hV hM
      go_wp2_with fail
      refine wp_region_held_drew (S := (fun _ => True)) (by kernel_rfl) trivial (fun hHeld => ?_)
      refine takeH (i := 0) (v := (.pointer (some ⟨w.heap.size + 1, 1, none⟩))) rfl rfl (by kernel_rfl) (by kernel_rfl) (by kernel_rfl) (fun _ _ _ h => h) (by rfl) (fun W hW => by (skip); go_simp) (by assumption) ?_
      simp only [List.setIfInBounds_toArray, List.set_cons_zero, List.set_cons_succ]
      refine takeH (i := 2) (v := (.int .i64 n)) rfl rfl (by kernel_rfl) (by kernel_rfl) (by kernel_rfl) (fun _ _ _ h => h) (by rfl) (fun W hW => by (skip); go_simp) (by assumption) ?_
      simp only [List.setIfInBounds_toArray, List.set_cons_zero, List.set_cons_succ]
      have l0 := HS0.out
      have l1 := HKA.out
      have l2 := HKB.out
      refine wpAnyH_ready (rs := [1, 3]) (by kernel_rfl) (by simp) ?_
      refine (AllReadyH.cons rfl (fun K hK => ?_) (AllReadyH.cons rfl (fun K hK => ?_) AllReadyH.nil))
      · go_simp
        refine hK.out _ _ trivial (fun hHeld => ?_)
        clear hK K
        try simp only [Act.put, List.setIfInBounds_toArray, List.set_cons_zero, List.set_cons_succ]
        refine wpAnyH_ready (rs := [3]) (by kernel_rfl) (by simp) ?_
        refine (AllReadyH.cons rfl (fun K hK => ?_) AllReadyH.nil)
        go_simp
        refine hK.out _ _ trivial (fun hHeld => ?_)
        clear hK K
        try simp only [Act.put, List.setIfInBounds_toArray, List.set_cons_zero, List.set_cons_succ]
        refine wpAnyH_ready (rs := [4]) (by kernel_rfl) (by simp) ?_
        refine (AllReadyH.cons rfl (fun K hK => ?_) AllReadyH.nil)
        go_simp
        refine hK.out _ _ trivial (fun hHeld => ?_)
        clear hK K
        try simp only [Act.put, List.setIfInBounds_toArray, List.set_cons_zero, List.set_cons_succ]
        refine wpAnyH_ready (rs := [5]) (by kernel_rfl) (by simp) ?_
        refine (AllReadyH.cons rfl (fun K hK => ?_) AllReadyH.nil)
        refine op_append_own (.tmp 17) (.tmp 20) 37 rfl (w.heap.size + 1 + 1) 28 j0 (.slice none 0 0) 1 24 Try.underlying37 hj0 hy0 hy1 hy2 rfl (by decide) _ _ _ rfl HO2.out _ 1 1 [.slice (some ⟨wr.heap.size, 0, none⟩) n n] rfl rfl HCN.out (by simp [Value.oneCell']) (by unfold maxLen; omega) (by omega) (by show w.heap.size + 1 + 1 ≤ ((wr.alloc (.cells (CTab n fun _ => .int .i64 0) 3)).alloc (.cells #[.slice (some ⟨wr.heap.size, 0, none⟩) n n] 28)).heap.size; simp; omega) ?_
        intro v1 w3 hown hgrow hob
        obtain ⟨A3, c3, rfl⟩ := owned_form hown
        have hg2 : ((wr.alloc (.cells (CTab n fun _ => .int .i64 0) 3)).alloc (.cells #[.slice (some ⟨wr.heap.size, 0, none⟩) n n] 28)).grownBy w3 v.ownBlock := ⟨hgrow.os, hgrow.tape, hgrow.output, hgrow.size, hgrow.block⟩
        have hr3 : Row w3 (w.heap.size + 1) 61 #[.int .i64 p, v] := ((HR.out.alloc (.cells (CTab n fun _ => .int .i64 0) 3)).alloc (.cells #[.slice (some ⟨wr.heap.size, 0, none⟩) n n] 28)).kept hg2 (fun e => by have := HO.out.lt _ e.symm; omega)
        have HK3 := Lib.hid (show w3.cell? ⟨w.heap.size + 1, 1, none⟩ = some v from hr3.cell (i := 1) rfl)
        have hf3 := hr3.frozen 1
        have HN := Lib.hid (blk_step HI.out hlt HR.out HO.out HV.out HM.out hown hg2 hob)
        clear hr3 hg2 hown hgrow hob
        refine hK.out _ _ trivial (fun hHeld => ?_)
        clear hK K
        try simp only [Act.put, List.setIfInBounds_toArray]
        refine takeH (i := 6) (v := (.pointer (some ⟨w.heap.size + 1, 1, none⟩))) rfl rfl (by kernel_rfl) (by kernel_rfl) (by kernel_rfl) (fun _ _ _ h => h) (by rfl) (fun W hW => by (skip); go_simp) (by assumption) ?_
        simp only [List.setIfInBounds_toArray, List.set_cons_zero, List.set_cons_succ]
        have hc3 := HK3.out
        refine wpAnyH_ready (rs := [7]) (by kernel_rfl) (by simp) ?_
        refine (AllReadyH.cons rfl (fun K hK => ?_) AllReadyH.nil)
        go_simp
        refine hK.out _ _ trivial (fun hHeld => ?_)
        clear hK K
        try simp only [Act.put, List.setIfInBounds_toArray, List.set_cons_zero, List.set_cons_succ]
        refine wpAnyH_done (by kernel_rfl) ?_ _
        go_wp2
        go_roundw
        case rel => exact ⟨i + 1, by go_num, HN.out⟩
        case measure => simp [intOf]; omega

      · go_simp
        refine hK.out _ _ trivial (fun hHeld => ?_)
        clear hK K
        try simp only [Act.put, List.setIfInBounds_toArray, List.set_cons_zero, List.set_cons_succ]
        refine wpAnyH_ready (rs := [1, 4]) (by kernel_rfl) (by simp) ?_
        refine (AllReadyH.cons rfl (fun K hK => ?_) (AllReadyH.cons rfl (fun K hK => ?_) AllReadyH.nil))
        · go_simp
          refine hK.out _ _ trivial (fun hHeld => ?_)
          clear hK K
          try simp only [Act.put, List.setIfInBounds_toArray, List.set_cons_zero, List.set_cons_succ]
          refine wpAnyH_ready (rs := [4]) (by kernel_rfl) (by simp) ?_
          refine (AllReadyH.cons rfl (fun K hK => ?_) AllReadyH.nil)
          go_simp
          refine hK.out _ _ trivial (fun hHeld => ?_)
          clear hK K
          try simp only [Act.put, List.setIfInBounds_toArray, List.set_cons_zero, List.set_cons_succ]
          refine wpAnyH_ready (rs := [5]) (by kernel_rfl) (by simp) ?_
          refine (AllReadyH.cons rfl (fun K hK => ?_) AllReadyH.nil)
          refine op_append_own (.tmp 17) (.tmp 20) 37 rfl (w.heap.size + 1 + 1) 28 j0 (.slice none 0 0) 1 24 Try.underlying37 hj0 hy0 hy1 hy2 rfl (by decide) _ _ _ rfl HO2.out _ 1 1 [.slice (some ⟨wr.heap.size, 0, none⟩) n n] rfl rfl HCN.out (by simp [Value.oneCell']) (by unfold maxLen; omega) (by omega) (by show w.heap.size + 1 + 1 ≤ ((wr.alloc (.cells (CTab n fun _ => .int .i64 0) 3)).alloc (.cells #[.slice (some ⟨wr.heap.size, 0, none⟩) n n] 28)).heap.size; simp; omega) ?_
          intro v1 w3 hown hgrow hob
          obtain ⟨A3, c3, rfl⟩ := owned_form hown
          have hg2 : ((wr.alloc (.cells (CTab n fun _ => .int .i64 0) 3)).alloc (.cells #[.slice (some ⟨wr.heap.size, 0, none⟩) n n] 28)).grownBy w3 v.ownBlock := ⟨hgrow.os, hgrow.tape, hgrow.output, hgrow.size, hgrow.block⟩
          have hr3 : Row w3 (w.heap.size + 1) 61 #[.int .i64 p, v] := ((HR.out.alloc (.cells (CTab n fun _ => .int .i64 0) 3)).alloc (.cells #[.slice (some ⟨wr.heap.size, 0, none⟩) n n] 28)).kept hg2 (fun e => by have := HO.out.lt _ e.symm; omega)
          have HK3 := Lib.hid (show w3.cell? ⟨w.heap.size + 1, 1, none⟩ = some v from hr3.cell (i := 1) rfl)
          have hf3 := hr3.frozen 1
          have HN := Lib.hid (blk_step HI.out hlt HR.out HO.out HV.out HM.out hown hg2 hob)
          clear hr3 hg2 hown hgrow hob
          refine hK.out _ _ trivial (fun hHeld => ?_)
          clear hK K
          try simp only [Act.put, List.setIfInBounds_toArray]
          refine takeH (i := 6) (v := (.pointer (some ⟨w.heap.size + 1, 1, none⟩))) rfl rfl (by kernel_rfl) (by kernel_rfl) (by kernel_rfl) (fun _ _ _ h => h) (by rfl) (fun W hW => by (skip); go_simp) (by assumption) ?_
          simp only [List.setIfInBounds_toArray, List.set_cons_zero, List.set_cons_succ]
          have hc3 := HK3.out
          refine wpAnyH_ready (rs := [7]) (by kernel_rfl) (by simp) ?_
          refine (AllReadyH.cons rfl (fun K hK => ?_) AllReadyH.nil)
          go_simp
          refine hK.out _ _ trivial (fun hHeld => ?_)
          clear hK K
          try simp only [Act.put, List.setIfInBounds_toArray, List.set_cons_zero, List.set_cons_succ]
          refine wpAnyH_done (by kernel_rfl) ?_ _
          go_wp2
          go_roundw
          case rel => exact ⟨i + 1, by go_num, HN.out⟩
          case measure => simp [intOf]; omega

        · go_simp
          refine hK.out _ _ trivial (fun hHeld => ?_)
          clear hK K
          try simp only [Act.put, List.setIfInBounds_toArray, List.set_cons_zero, List.set_cons_succ]
          refine wpAnyH_ready (rs := [1]) (by kernel_rfl) (by simp) ?_
          refine (AllReadyH.cons rfl (fun K hK => ?_) AllReadyH.nil)
          go_simp
          refine hK.out _ _ trivial (fun hHeld => ?_)
          clear hK K
          try simp only [Act.put, List.setIfInBounds_toArray, List.set_cons_zero, List.set_cons_succ]
          refine wpAnyH_ready (rs := [5]) (by kernel_rfl) (by simp) ?_
          refine (AllReadyH.cons rfl (fun K hK => ?_) AllReadyH.nil)
          refine op_append_own (.tmp 17) (.tmp 20) 37 rfl (w.heap.size + 1 + 1) 28 j0 (.slice none 0 0) 1 24 Try.underlying37 hj0 hy0 hy1 hy2 rfl (by decide) _ _ _ rfl HO2.out _ 1 1 [.slice (some ⟨wr.heap.size, 0, none⟩) n n] rfl rfl HCN.out (by simp [Value.oneCell']) (by unfold maxLen; omega) (by omega) (by show w.heap.size + 1 + 1 ≤ ((wr.alloc (.cells (CTab n fun _ => .int .i64 0) 3)).alloc (.cells #[.slice (some ⟨wr.heap.size, 0, none⟩) n n] 28)).heap.size; simp; omega) ?_
          intro v1 w3 hown hgrow hob
          obtain ⟨A3, c3, rfl⟩ := owned_form hown
          have hg2 : ((wr.alloc (.cells (CTab n fun _ => .int .i64 0) 3)).alloc (.cells #[.slice (some ⟨wr.heap.size, 0, none⟩) n n] 28)).grownBy w3 v.ownBlock := ⟨hgrow.os, hgrow.tape, hgrow.output, hgrow.size, hgrow.block⟩
          have hr3 : Row w3 (w.heap.size + 1) 61 #[.int .i64 p, v] := ((HR.out.alloc (.cells (CTab n fun _ => .int .i64 0) 3)).alloc (.cells #[.slice (some ⟨wr.heap.size, 0, none⟩) n n] 28)).kept hg2 (fun e => by have := HO.out.lt _ e.symm; omega)
          have HK3 := Lib.hid (show w3.cell? ⟨w.heap.size + 1, 1, none⟩ = some v from hr3.cell (i := 1) rfl)
          have hf3 := hr3.frozen 1
          have HN := Lib.hid (blk_step HI.out hlt HR.out HO.out HV.out HM.out hown hg2 hob)
          clear hr3 hg2 hown hgrow hob
          refine hK.out _ _ trivial (fun hHeld => ?_)
          clear hK K
          try simp only [Act.put, List.setIfInBounds_toArray]
          refine takeH (i := 6) (v := (.pointer (some ⟨w.heap.size + 1, 1, none⟩))) rfl rfl (by kernel_rfl) (by kernel_rfl) (by kernel_rfl) (fun _ _ _ h => h) (by rfl) (fun W hW => by (skip); go_simp) (by assumption) ?_
          simp only [List.setIfInBounds_toArray, List.set_cons_zero, List.set_cons_succ]
          have hc3 := HK3.out
          refine wpAnyH_ready (rs := [7]) (by kernel_rfl) (by simp) ?_
          refine (AllReadyH.cons rfl (fun K hK => ?_) AllReadyH.nil)
          go_simp
          refine hK.out _ _ trivial (fun hHeld => ?_)
          clear hK K
          try simp only [Act.put, List.setIfInBounds_toArray, List.set_cons_zero, List.set_cons_succ]
          refine wpAnyH_done (by kernel_rfl) ?_ _
          go_wp2
          go_roundw
          case rel => exact ⟨i + 1, by go_num, HN.out⟩
          case measure => simp [intOf]; omega

    · have e : i = m := by omega
      subst e
      obtain ⟨v, rb, hr, hO, hV, hM⟩ := hI.rows
      obtain ⟨A0, c0, rfl⟩ := owned_form hO
      have c1 := hr.cell (i := 0) rfl
      have c2 := hr.cell (i := 1) rfl
      have d1 := hI.res.cell (i := 0) rfl
      have d2 := hI.res.cell (i := 1) rfl
      have f1 := hI.res.frozen 0
      have f2 := hI.res.frozen 1
      have HE := Lib.hid (blk_end hm1 hI hO hV hM)
      have HX := Lib.hid (hI.res.row_set (.int .i64 p) (.slice A0 i c0))
      clear hI hr hO hV hM
      go_wp2
      have e1 := HX.out.cell (i := 0) rfl
      have e2 := HX.out.cell (i := 1) rfl
      refine bodyPost_ret (v := .agg #[.int .i64 p, .slice A0 i c0]) ?_ rfl HE.out
      simp [results, Try.results165, go_sem, e1, e2]
end Go.Proofs.Ytokiejichnnmnaa
