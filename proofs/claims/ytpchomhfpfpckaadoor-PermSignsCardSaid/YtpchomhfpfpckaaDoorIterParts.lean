/- The iterator over cycles: what its loops keep. -/
import Derived.Test.YtpchomhfpfpckaaDoorRange
import Derived.Test.YtpchomhfpfpckaaDoorCyc
import Derived.Maps.AppendAt
import Derived.OwnWalkIn
namespace Go.Proofs.YtpchomhfpfpckaaDoor
open Go Go.RowKit

abbrev Pt := Value × List Int

/-- What the iterator hands over: a slice that reads as the next cycle. -/
def Hand (zs : List Int) (pre : List Pt) (x : Pt) (w : World) : Prop :=
  (Ints w w.heap.size x.1 x.2 ∧ ∀ b o n c, x.1 = .slice (some ⟨b, o, none⟩) n c → ∃ cur, w.heap[b]? = some (.cells cur 3 (0, 0))) ∧ x.2 ≠ [] ∧ InR zs.length x.2 ∧ ∃ k, k < zs.length ∧ SeenOk zs (k + 1) ∧ (upTo zs k).2 = pre.map Prod.snd ∧ (upTo zs (k + 1)).2 = (pre ++ [x]).map Prod.snd

theorem Hand.putObj {zs : List Int} (pre : List Pt) (x : Pt) (W : World) (l : Nat) (o o' : Obj) (h : Hand zs pre x W) (hl : W.heap[l]? = some o) (ho : o.isCells = false) : Hand zs pre x (W.putObj l o') := by
  obtain ⟨⟨⟨A, c, e, h1⟩, ht⟩, h2⟩ := h
  refine ⟨⟨⟨A, c, e, fun hn => ?_⟩, fun b o1 n c1 e1 => ?_⟩, h2⟩
  rotate_left
  · obtain ⟨cur, hcur⟩ := ht b o1 n c1 e1
    refine ⟨cur, (World.putObj_heap_other ?_).trans hcur⟩
    rintro rfl
    rw [hl] at hcur; cases hcur; cases ho
  obtain ⟨b, o1, rfl, hb, hc⟩ := h1 hn
  exact ⟨b, o1, rfl, by simpa using hb, fun j hj => cell_kept (hc j hj) (grownBy_putObj' W l o') (fun r e => by cases e; exact ⟨o, hl, ho⟩)⟩

/-- What is known of a cycle that is handed over. -/
theorem Hand.facts {zs : List Int} {pre : List Pt} {v : Value} {cl : List Int} {W : World} (h64 : zs.length ≤ 64) (h : Hand zs pre (v, cl) W) :
    1 ≤ cl.length ∧ cl.length ≤ 64 ∧ ((pre.map Prod.snd).map List.length).sum ≤ 64 ∧ (∀ d ∈ pre.map Prod.snd, 1 ≤ d.length) ∧ InR zs.length cl := by
  obtain ⟨_, hne, hin, k, hk, hso, hp1, hp2⟩ := h
  dsimp only at hne hin
  have hcl : 1 ≤ cl.length := by cases cl with
    | nil => exact absurd rfl hne
    | cons a t => simp
  have hsum := hso.2.1
  rw [hp2] at hsum
  have hfr := hso.1
  have hpos := hso.2.2
  rw [hp2] at hpos
  rw [List.map_append, List.map_append, List.sum_append] at hsum
  simp at hsum
  refine ⟨hcl, by omega, by simp; omega, fun d hd => hpos d (by simp at hd ⊢; exact .inl hd), hin⟩

structure OutAt (J : List Pt → (Nat → Prop) → World → Prop) (zs : List Int) (T Bx b o c m : Nat) (L : List Int) (pre : List Pt) (G : Nat → Prop) (wr : World) : Prop where
  j : J pre G wr
  t : Row wr T 84 (marksL L)
  gt : G T
  gs : ∀ g, G g → m ≤ g ∧ g < wr.heap.size
  bx : Boxed wr Bx 24 (.slice (some ⟨b, o, none⟩) zs.length c)
  ce : ∀ j, j < zs.length → wr.cell? ⟨b, o + j, none⟩ = some (.int .i64 (zs.getD j 0))
  lo : Bx < m ∧ b < m ∧ m ≤ wr.heap.size

section
variable {J : List Pt → (Nat → Prop) → World → Prop} {zs : List Int} {T Bx b o c m : Nat} {L : List Int} {pre : List Pt} {G : Nat → Prop} {wr w' : World}

theorem OutAt.far (h : OutAt J zs T Bx b o c m L pre G wr) {row : Option Nat} (hr : ∀ r, row = some r → G r) (k : Nat) (hk : k < m) : some k ≠ row := fun e => by
  have := h.gs k (hr k e.symm); omega

theorem OutAt.grown (hJ : AbidesG m J) (h : OutAt J zs T Bx b o c m L pre G wr) {row : Option Nat} (hg : wr.grownBy w' row) (hr : ∀ r, row = some r → G r ∧ r ≠ T) :
    OutAt J zs T Bx b o c m L pre (fun k => G k ∨ (wr.heap.size ≤ k ∧ k < w'.heap.size)) w' := by
  have hlo := h.lo
  have hs := hg.size
  refine ⟨hJ _ _ _ _ _ _ h.j hg (fun r e => .inl (hr r e).1) (fun k h => h), h.t.kept hg (fun e => (hr T e.symm).2 rfl), .inl h.gt, ?_, h.bx.kept hg (h.far (fun r e => (hr r e).1) _ hlo.1), ?_, hlo.1, hlo.2.1, by omega⟩
  · rintro g (hG | hG)
    · have := h.gs g hG; omega
    · omega
  · intro j hj
    exact hg.cell (h.ce j hj) (h.far (fun r e => (hr r e).1) _ hlo.2.1)

theorem OutAt.mark (hJ : AbidesG m J) (h : OutAt J zs T Bx b o c m L pre G wr) (i : Nat) : OutAt J zs T Bx b o c m (L ++ [(i : Int)]) pre G (wr.setCell ⟨T, i, none⟩ (.bool true)) := by
  have hlo := h.lo
  have hT := h.gs T h.gt
  have hg : wr.grownBy (wr.setCell ⟨T, i, none⟩ (.bool true)) (some T) := ⟨rfl, rfl, rfl, (KeepsWalks.setCell wr _ _).size, fun k _ hk => Below.heap_setCell _ _ _ k (fun e => hk (by rw [e]))⟩
  have hz : (wr.setCell ⟨T, i, none⟩ (.bool true)).heap.size = wr.heap.size := by simp [World.setCell]
  refine ⟨hJ _ _ _ _ _ _ h.j hg (fun r e => by cases e; exact .inl h.gt) (fun k h => .inl h), by rw [← marksL_set]; exact h.t.set i _, h.gt, fun g hG => by rw [hz]; exact h.gs g hG, h.bx.kept hg (h.far (fun r e => by cases e; exact h.gt) _ hlo.1), ?_, hlo.1, hlo.2.1, by rw [hz]; exact hlo.2.2⟩
  intro j hj
  exact hg.cell (h.ce j hj) (h.far (fun r e => by cases e; exact h.gt) _ hlo.2.1)

/-- Behind a round of the caller's. -/
theorem OutAt.yield {K0 : Nat → Prop} (h : OutAt J zs T Bx b o c m L pre G wr) {x : Pt} (hJ' : J (pre ++ [x]) G w') (hs : wr.heap.size ≤ w'.heap.size)
    (hk : ∀ (k : Nat) (o : Obj), wr.heap[k]? = some o → o.isCells = true → (K0 k ∨ G k) → w'.heap[k]? = some o) (hKB : K0 Bx) (hKb : K0 b) : OutAt J zs T Bx b o c m L (pre ++ [x]) G w' := by
  refine ⟨hJ', hk T _ h.t rfl (.inr h.gt), h.gt, fun g hG => by have := h.gs g hG; omega, hk Bx _ h.bx rfl (.inl hKB), fun j hj => ?_, h.lo.1, h.lo.2.1, by have := h.lo; omega⟩
  obtain ⟨ob, ho, hoc⟩ := cells_of_cell (h.ce j hj)
  exact (World.cell?_of_block (a := ⟨b, o + j, none⟩) ((hk b ob ho hoc (.inl hKb)).trans ho.symm)).trans (h.ce j hj)

/-- The inner loop: the cycle cl so far, at i. -/
def InAt (J : List Pt → (Nat → Prop) → World → Prop) (zs : List Int) (T Bx b o c m : Nat) (L : List Int) (k : Nat) (pre : List Pt) (v5 : Value) (i : Nat) (cl : List Int) (G : Nat → Prop) (wr : World) : Prop :=
  AtCyc zs L k cl i ∧ OutAt J zs T Bx b o c m (L ++ cl) pre G wr ∧ wr.ownsRow m 3 1 v5 cl.length (cl.map (.int .i64)) ∧ (∀ g, v5.ownBlock = some g → G g ∧ g ≠ T) ∧ (cl = [] → v5 = .slice none 0 0)

/-- One more point: marked, appended; the next image is read. -/
theorem InAt.step (hJ : AbidesG m J) (hf : Fine zs) (h64 : zs.length ≤ 64) {k i : Nat} {v5 v' : Value} {cl : List Int} (h : InAt J zs T Bx b o c m L k pre v5 i cl G wr) (hi : (i : Int) ∉ L ++ cl) {tmp : Obj} {w3 : World}
    (hg : ((wr.setCell ⟨T, i, none⟩ (.bool true)).alloc tmp).grownBy w3 v5.ownBlock) (hown : w3.ownsRow m 3 1 v' (cl.length + 1) (cl.map (.int .i64) ++ [.int .i64 (i : Int)]))
    (hat : v'.ownBlock = v5.ownBlock ∨ v'.ownBlock = some ((wr.setCell ⟨T, i, none⟩ (.bool true)).alloc tmp).heap.size) :
    w3.cell? ⟨Bx, 0, none⟩ = some (.slice (some ⟨b, o, none⟩) zs.length c) ∧ w3.cell? ⟨b, o + i, none⟩ = some (.int .i64 (zs.getD i 0)) ∧ 0 ≤ zs.getD i 0 ∧ zs.getD i 0 < (zs.length : Int) ∧
    ∃ G', InAt J zs T Bx b o c m L k pre v' (zs.getD i 0).toNat (cl ++ [(i : Int)]) G' w3 := by
  obtain ⟨hA, hO, hr, hb, hn⟩ := h
  have hlt : i < zs.length := by have := hA.2.1; omega
  have hnx := fine_next hf hlt
  have hT := hO.gs T hO.gt
  have h1 := hO.mark hJ i
  have h2 := (h1.grown hJ (World.grownBy_alloc _ tmp none) (fun r e => by cases e)).grown hJ hg (fun r e => ⟨.inl (hb r e).1, (hb r e).2⟩)
  refine ⟨h2.bx.cell, h2.ce i hlt, hnx.1, hnx.2, _, ?_, by rw [← List.append_assoc]; exact h2, by simpa using hown, ?_, fun e => by simp at e⟩
  · rw [Int.toNat_of_nonneg hnx.1]; exact hA.step hf h64 hi
  · intro g e
    have hz : (wr.setCell ⟨T, i, none⟩ (.bool true)).heap.size = wr.heap.size := by simp [World.setCell]
    have hlt' := (hown.lt g e).2
    rcases hat with ha | ha
    · rw [ha] at e
      exact ⟨.inl (.inl (hb g e).1), (hb g e).2⟩
    · rw [ha] at e
      have e' : ((wr.setCell ⟨T, i, none⟩ (.bool true)).alloc tmp).heap.size = g := by injection e
      have e2 : wr.heap.size + 1 = g := by rw [← e', World.size_alloc, hz]
      exact ⟨.inr ⟨by omega, hlt'⟩, by omega⟩
end

theorem ints_of_own {w : World} {base n : Nat} {v : Value} {zs : List Int} (h : w.ownsRow base 3 1 v n (zs.map (.int .i64))) (hn : n = zs.length) : Ints w w.heap.size v zs := by
  subst hn
  rcases h.2 with ⟨rfl, h0⟩ | ⟨g, cap, cur, rfl, _⟩
  · exact ⟨none, 0, by rw [h0], fun hp => by omega⟩
  · refine ⟨_, cap, rfl, fun _ => ⟨g, 0, rfl, (h.lt g rfl).2, fun j hj => ?_⟩⟩
    rw [Nat.zero_add, h.cellAt j (by simpa using hj)]
    simp [List.getD_eq_getElem?_getD, hj]

theorem type_of_own {w : World} {base n : Nat} {v : Value} {xs : List Value} (h : w.ownsRow base 3 1 v n xs) : ∀ b o n' c, v = .slice (some ⟨b, o, none⟩) n' c → ∃ cur, w.heap[b]? = some (.cells cur 3 (0, 0)) := by
  intro b o n' c e
  rcases h.2 with ⟨rfl, _⟩ | ⟨g, cap, cur, rfl, _, hg, _⟩
  · cases e
  · cases e; exact ⟨cur, hg⟩

/-- 'append' of a slice of the call's own, told where the new row lies. -/
theorem wpListIn_append_at {F : Fence} {n : Nat} {P : Program} (w : World) {ops : Array Oper} {rest : List Oper} {o : Oper} {a : Act} {Q : Exit → Act → World → Prop}
    (hg : o.guard = none) (s x : Operand) (t : TypeId) (hop : o.op = Op.call { callee := Callee.builtin Builtin.append, args := #[s, x], argTypes := #[t, t] })
    (base : Nat) (e : TypeId) (i : TypeInfo) (z : Value) (size bytes : Nat) (h1 : P.underlying t = some (.slice e)) (h2 : P.info? e = some i) (h3 : i.zero = some z) (h4 : i.size = size) (h5 : i.bytes = bytes) (h6 : z.cells.size = size) (h7 : 0 < size)
    (v : Value) (k : Nat) (xs : List Value) (hs : a.eval s = v) (hown : w.ownsRow base e size v k xs) (ad : Addr) (m c : Nat) (news : List Value) (hx : a.eval x = .slice (some ad) m c) (hn : news.length = m * size)
    (hc : ∀ j u, news[j]? = some u → w.cell? (ad.add j) = some u) (h1c : ∀ u ∈ news, u.oneCell' = true) (b1 : k + m ≤ maxLen) (b2 : (k + m) * bytes ≤ 140737488355328) (b3 : base ≤ w.heap.size)
    (hK : ∀ v' w', w'.ownsRow base e size v' (k + m) (xs ++ news) → w.grownBy w' v.ownBlock → (v'.ownBlock = v.ownBlock ∨ v'.ownBlock = some w.heap.size) → wpListIn F n P ops Q rest (a.put o.dst v') w') :
    wpListIn F n P ops Q (o :: rest) a w := by
  refine wpListIn_plain hg fun K hK' => ?_
  obtain ⟨v', w', hrun, r1, r2, _, r4⟩ := run_append_own_at (P := P) w base t o.type e i z size bytes h1 h2 h3 h4 h5 h6 h7 v k xs hown ad m c news hn hc h1c b1 b2 b3
  unfold Oper.wpIn
  refine ⟨?_, ?_⟩
  · simp [Oper.about, hop, resolve, Target.leads, Sem.run_pure]
  · rw [Oper.semAt_plain F _ _ (by rw [hop]; intro c hc'; cases hc')]
    simp [execOp, hop, resolve, invoke, builtin, hs, hx, hrun, Result.andThen]
    exact hK' _ _ (hK v' w' r1 r2 r4)
end Go.Proofs.YtpchomhfpfpckaaDoor
