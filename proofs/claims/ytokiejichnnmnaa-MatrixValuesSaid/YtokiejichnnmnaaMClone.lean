/- slices.Clone; matrix.det, Det. -/
import Derived.Test.YtokiejichnnmnaaMElim4
import Derived.Maps.AppendAt
import Derived.OwnWalk
import Derived.Lib.SliceRun
namespace Go.Proofs.Ytokiejichnnmnaa
open Go Go.RowKit Num

theorem eqNil27 (w : World) (a : Option Addr) (n c n' c' : Nat) : (binOp .eql 28 (.slice a n c) (.slice none n' c')).run Try.prog w = .ok (.bool a.isNone) w := Lib.run_eql_slice_nil w _ 3 a n c n' c' (by kernel_rfl)
theorem eqNil23 (w : World) (a : Option Addr) (n c n' c' : Nat) : (binOp .eql 37 (.slice a n c) (.slice none n' c')).run Try.prog w = .ok (.bool a.isNone) w := Lib.run_eql_slice_nil w _ 28 a n c n' c' (by kernel_rfl)

/-- A slice of its own, written out. -/
theorem owns_at {w : World} {base n : Nat} {e : TypeId} {v : Value} {xs : List Value} (h : w.ownsRow base e 1 v n xs) (hn : 0 < n) :
    ∃ (g cap : Nat) (cs : Array Value), v = .slice (some ⟨g, 0, none⟩) n cap ∧ base ≤ g ∧ n ≤ cap ∧ Row w g e cs ∧ ∀ (j : Nat) (u : Value), xs[j]? = some u → cs[j]? = some u := by
  rcases h.2 with ⟨rfl, h0⟩ | ⟨g, cap, cur, rfl, hb, hg, hnc, hcm, hcs, htake⟩
  · omega
  · refine ⟨g, cap, cur, rfl, hb, hnc, hg, fun j u hj => ?_⟩
    have hj' : j < xs.length := (List.getElem?_eq_some_iff.1 hj).1
    have : (cur.toList.take (n * 1))[j]? = some u := by rw [htake]; exact hj
    rw [List.getElem?_take] at this
    split at this
    · simpa using this
    · cases this

set_option maxRecDepth 100000 in
set_option maxHeartbeats 2000000 in
theorem cloneInts_any (v : Value) (n : Nat) (f : Nat → Int) (S : Nat → Prop) (w : World) (_hS : ∀ b, S b → b < w.heap.size) (hn0 : 1 ≤ n) (hn : n ≤ 1000000) (hv : Vec w S v n f) :
    Calls Try.prog 97 #[v] w (GivesV w n f) := by
  obtain ⟨b, o, c, rfl, hc, hb, hcc⟩ := hv.at_ (by omega)
  obtain ⟨i0, hi, hz0, hz1, hz2⟩ := info_parts info3m
  have q := eqNil27
  have A := Lib.hid hcc
  clear hcc hv
  go_enter Try.func97, Try.ntmps97
  go_wp2_with (at_builtin; refine wpList_append_own _ rfl _ _ 28 rfl w.heap.size 3 i0 (.int .i64 0) 1 8 Try.underlying28 hi hz0 hz1 hz2 rfl (by decide) _ _ _ rfl (World.ownsRow_made w #[] 0 (Nat.le_refl _) (Nat.zero_le _) rfl) ⟨b, o, none⟩ n c ((List.range n).map (iv f)) rfl ?qc1 ?qc2 ?qc3 ?qc4 ?qc5 ?qc6 ?qc7)
  case qc1 => simp
  case qc2 =>
    intro j u hj
    have hjn : j < n := by
      have := (List.getElem?_eq_some_iff.1 hj).1
      simpa using this
    rw [Addr.add_lit]
    refine Lib.cell?_alloc_some _ ?_
    rw [A.out j hjn]
    have e : ((List.range n).map (iv f))[j]? = some (.int .i64 (f j)) := by simp [hjn, iv]
    rw [e] at hj
    exact hj
  case qc3 => intro u hu; obtain ⟨x, _, rfl⟩ := List.mem_map.1 hu; rfl
  case qc4 => unfold maxLen; omega
  case qc5 => omega
  case qc6 => simp
  intro v' w1 hown hgrow hnil
  have hown' : w1.ownsRow w.heap.size 3 1 v' n ((List.range n).map (iv f)) := by simpa using hown
  obtain ⟨g, cap, cs, rfl, hg, hcap, hrow, hcs⟩ := owns_at hown' (by omega)
  have HV := Lib.hid (show Vec w1 (New w w1) (.slice (some ⟨g, 0, none⟩) n cap) n f from ⟨_, cap, rfl, hcap, fun _ => ⟨g, 0, rfl, ⟨hg, hrow.lt⟩, fun j hj => by rw [Nat.zero_add]; exact hrow.cell (hcs j _ (by simp [hj, iv]))⟩⟩)
  have HB := Lib.hid (show Below w.heap.size w w1 from ((Below.refl _ w).alloc (Nat.le_refl _) _).grown hgrow (by simp) (by intro k hk; simp [Value.ownBlock] at hk; omega))
  clear hown hown' hgrow hnil hcs hrow
  go_wp2
  go_ret
  exact ⟨_, rfl, HV.out, HB.out⟩

/-- What Clone of rows gives. -/
def GivesR (w : World) (m : Nat) (r : Nat → Value) (e : Ending) (w' : World) : Prop :=
  ∃ (g cap : Nat) (cs : Array Value), e = .returned (.slice (some ⟨g, 0, none⟩) m cap) ∧ w.heap.size ≤ g ∧ m ≤ cap ∧ Row w' g 28 cs ∧ (∀ i, i < m → cs[i]? = some (r i)) ∧ Below w.heap.size w w'
set_option maxRecDepth 100000 in
set_option maxHeartbeats 2000000 in
theorem cloneRows_any (b o c m : Nat) (r : Nat → Value) (w : World) (hm0 : 1 ≤ m) (hm : m ≤ 1000000) (hr : ∀ i, i < m → (r i).oneCell' = true) (hcc : ∀ i, i < m → w.cell? ⟨b, o + i, none⟩ = some (r i)) :
    Calls Try.prog 161 #[.slice (some ⟨b, o, none⟩) m c] w (GivesR w m r) := by
  obtain ⟨i0, hi, hz0, hz1, hz2⟩ := info_parts info27m
  have q := eqNil23
  have A := Lib.hid hcc
  have HR := Lib.hid hr
  clear hcc hr
  go_enter Try.func161, Try.ntmps161
  go_wp2_with (at_builtin; refine wpList_append_own _ rfl _ _ 37 rfl w.heap.size 28 i0 (.slice none 0 0) 1 24 Try.underlying37 hi hz0 hz1 hz2 rfl (by decide) _ _ _ rfl (World.ownsRow_made w #[] 0 (Nat.le_refl _) (Nat.zero_le _) rfl) ⟨b, o, none⟩ m c ((List.range m).map r) rfl ?qc1 ?qc2 ?qc3 ?qc4 ?qc5 ?qc6 ?qc7)
  case qc1 => simp
  case qc2 =>
    intro j u hj
    have hjn : j < m := by
      have := (List.getElem?_eq_some_iff.1 hj).1
      simpa using this
    rw [Addr.add_lit]
    refine Lib.cell?_alloc_some _ ?_
    rw [A.out j hjn]
    have e : ((List.range m).map r)[j]? = some (r j) := by simp [hjn]
    rw [e] at hj
    exact hj
  case qc3 => intro u hu; obtain ⟨x, hx, rfl⟩ := List.mem_map.1 hu; exact HR.out x (List.mem_range.1 hx)
  case qc4 => unfold maxLen; omega
  case qc5 => omega
  case qc6 => simp
  intro v' w1 hown hgrow hnil
  have hown' : w1.ownsRow w.heap.size 28 1 v' m ((List.range m).map r) := by simpa using hown
  obtain ⟨g, cap, cs, rfl, hg, hcap, hrow, hcs⟩ := owns_at hown' (by omega)
  have HC := Lib.hid (show ∀ i, i < m → cs[i]? = some (r i) from fun i hi => hcs i _ (by simp [hi]))
  have HRW := Lib.hid hrow
  have HB := Lib.hid (show Below w.heap.size w w1 from ((Below.refl _ w).alloc (Nat.le_refl _) _).grown hgrow (by simp) (by intro k hk; simp [Value.ownBlock] at hk; omega))
  clear hown hown' hgrow hnil hcs hrow
  go_wp2
  go_ret
  exact ⟨g, cap, cs, rfl, hg, hcap, HRW.out, HC.out, HB.out⟩
end Go.Proofs.Ytokiejichnnmnaa
