/- The reader of package word: its small steps, where no fault is met. -/
import Derived.Test.YtlpepholcehojaaDoorWOps
import Derived.Deep.LoopGhost
import Derived.WalkSpells
namespace Go.Proofs.YtlpepholcehojaaDoor
open Go Go.RowKit

/-- The byte at a place, -1 behind the end. -/
def chAt (s : ByteArray) (i : Nat) : Int := if h : i < s.size then (s[i].toNat : Int) else -1
theorem chAt_in {s : ByteArray} {i : Nat} (h : i < s.size) : chAt s i = (s[i].toNat : Int) := by unfold chAt; rw [dif_pos h]
theorem chAt_out {s : ByteArray} {i : Nat} (h : s.size ≤ i) : chAt s i = -1 := by unfold chAt; rw [dif_neg (by omega)]
theorem chAt_lt {s : ByteArray} {i : Nat} {c : Int} (h : chAt s i = c) (hc : 0 ≤ c) : i < s.size := by
  rcases Nat.lt_or_ge i s.size with h1 | h1
  · exact h1
  · rw [chAt_out h1] at h; omega
/-- From p on there are blanks, up to q. -/
def Skp (s : ByteArray) (p q : Nat) : Prop := p ≤ q ∧ q ≤ s.size ∧ (∀ i, p ≤ i → i < q → chAt s i = 32) ∧ chAt s q ≠ 32
theorem Skp.here {s : ByteArray} {p : Nat} (hp : p ≤ s.size) (h : chAt s p ≠ 32) : Skp s p p := ⟨Nat.le_refl _, hp, fun i h1 h2 => absurd h1 (by omega), h⟩

/-- Below B only block t has turned. -/
def But (t B : Nat) (w w' : World) : Prop := Below t w w' ∧ ∀ i, i < B → i ≠ t → w'.heap[i]? = w.heap[i]?
theorem But.refl (t B : Nat) (w : World) : But t B w w := ⟨Below.refl _ _, fun _ _ _ => rfl⟩
theorem But.trans {t B : Nat} {a b c : World} (h : But t B a b) (k : But t B b c) : But t B a c := ⟨h.1.trans k.1, fun i hi hn => (k.2 i hi hn).trans (h.2 i hi hn)⟩
theorem But.of {t B : Nat} {a b : World} (h : Below B a b) (ht : t ≤ B) : But t B a b := ⟨h.mono ht, fun i hi _ => h.block i hi⟩
theorem But.set {t B : Nat} (w : World) {p : Addr} (hp : p.block = t ∨ B ≤ p.block) (ht : t ≤ B) (u : Value) : But t B w (w.setCell p u) :=
  ⟨(Below.refl _ _).setCell (by omega) u, fun i hi hn => Below.heap_setCell w p u i (by omega)⟩
theorem But.mono {t B B' : Nat} {w w' : World} (h : But t B w w') (hB : B' ≤ B) : But t B' w w' := ⟨h.1, fun i hi hn => h.2 i (by omega) hn⟩
theorem But.drewN {t B : Nat} {w w' : World} (h : But t B w w') (n : Nat) : But t B w (w'.drewN n) := h.trans ⟨⟨rfl, rfl, rfl, Nat.le_refl _, fun _ _ => rfl⟩, fun _ _ _ => rfl⟩

/-- A reader of the text s for g generators, at place q, with o open. -/
def RdRow (w : World) (R : Nat) (s : ByteArray) (g : Int) (q o : Nat) : Prop := Row w R 62 #[.string s, .int .i64 g, .int .i64 q, .int .i64 o]
structure Rd (w w' : World) (R : Nat) (s : ByteArray) (g : Int) (q o : Nat) : Prop where
  row : RdRow w' R s g q o
  but : But R w.heap.size w w'
theorem Rd.refl {w : World} {R : Nat} {s : ByteArray} {g : Int} {q o : Nat} (h : RdRow w R s g q o) : Rd w w R s g q o := ⟨h, But.refl _ _ _⟩
theorem Rd.trans {w w1 w2 : World} {R : Nat} {s : ByteArray} {g : Int} {q o q' o' : Nat} (h : Rd w w1 R s g q o) (k : Rd w1 w2 R s g q' o') : Rd w w2 R s g q' o' :=
  ⟨k.row, h.but.trans (k.but.mono h.but.1.size)⟩
theorem Rd.drewN {w w1 : World} {R : Nat} {s : ByteArray} {g : Int} {q o : Nat} (h : Rd w w1 R s g q o) (n : Nat) : Rd w (w1.drewN n) R s g q o := ⟨h.row, h.but.drewN n⟩
theorem Rd.below {w w1 w2 : World} {R : Nat} {s : ByteArray} {g : Int} {q o : Nat} (h : Rd w w1 R s g q o) (hb : Below w1.heap.size w1 w2) (hR : R < w.heap.size) : Rd w w2 R s g q o :=
  ⟨h.row.below hb (Nat.lt_of_lt_of_le hR h.but.1.size), h.but.trans ((But.of hb (Nat.le_of_lt (Nat.lt_of_lt_of_le hR h.but.1.size))).mono h.but.1.size)⟩
theorem Rd.grown {w w1 w2 : World} {R : Nat} {s : ByteArray} {g : Int} {q o : Nat} {row : Option Nat} (h : Rd w w1 R s g q o) (hg : w1.grownBy w2 row) (hr : ∀ r, row = some r → w.heap.size ≤ r) (hR : R < w.heap.size) : Rd w w2 R s g q o := by
  have hs := h.but.1.size
  refine ⟨h.row.kept hg (fun e => by have := hr R e.symm; omega), h.but.1.grown hg (by omega) (fun k e => by have := hr k e; omega), fun i hi hn => ?_⟩
  exact (hg.block i (by omega) (fun e => by have := hr i e.symm; omega)).trans (h.but.2 i hi hn)
theorem Rd.at_ {w w1 : World} {R : Nat} {s : ByteArray} {g : Int} {q o : Nat} (h : Rd w w1 R s g q o) (hR : R < w.heap.size) (q' : Nat) : Rd w (w1.setCell ⟨R, 2, none⟩ (.int .i64 q')) R s g q' o :=
  ⟨h.row.set 2 (.int .i64 q'), h.but.trans (But.set w1 (p := ⟨R, 2, none⟩) (.inl rfl) (Nat.le_of_lt hR) _)⟩
theorem Rd.op {w w1 : World} {R : Nat} {s : ByteArray} {g : Int} {q o : Nat} (h : Rd w w1 R s g q o) (hR : R < w.heap.size) (o' : Nat) : Rd w (w1.setCell ⟨R, 3, none⟩ (.int .i64 o')) R s g q o' :=
  ⟨h.row.set 3 (.int .i64 o'), h.but.trans (But.set w1 (p := ⟨R, 3, none⟩) (.inl rfl) (Nat.le_of_lt hR) _)⟩

set_option maxRecDepth 100000 in
set_option maxHeartbeats 1000000 in
theorem skip_any (w : World) (R : Nat) (s : ByteArray) (g : Int) (p q o : Nat) (hs : s.size ≤ 20000) (h : RdRow w R s g p o) (hk : Skp s p q) :
    Calls Tryd.prog 52 #[.pointer (some ⟨R, 0, none⟩)] w fun e w' => e = .returned (.tuple #[]) ∧ Rd w w' R s g q o := by
  have hR := h.lt
  have HR := Lib.hid (Rd.refl h)
  obtain ⟨hpq, hqs, hbl, hend⟩ := hk
  have HBL := Lib.hid hbl
  have HE := Lib.hid hend
  clear h hbl hend
  go_enter Tryd.func52, Tryd.ntmps52
  go_wp2
  go_loopg [] (q - p) (fun gk wr => ∃ k : Nat, p ≤ k ∧ k ≤ q ∧ gk = q - k ∧ Rd w wr R s g k o)
  case atStart => exact ⟨p, Nat.le_refl _, hpq, rfl, HR.out⟩
  case round =>
    obtain ⟨k, hpk, hkq, rfl, hRd⟩ := hrel
    have hc0 := hRd.row.cell (i := 0) rfl
    have hc2 := hRd.row.cell (i := 2) rfl
    have hf2 := hRd.row.frozen 2
    have HRd := Lib.hid hRd
    clear hRd
    by_cases hlt : k < q
    · have hks : k < s.size := by omega
      have hb : ((s[k].toNat : Int) == 32) = true := by
        have := HBL.out k hpk hlt
        rw [chAt_in hks] at this
        simpa using this
      go_wp2_with fail
      go_quiet (fail)
      go_wp2_with fail
      go_roundg (q - (k + 1))
      case measure => omega
      case rel => exact ⟨k + 1, by omega, by omega, rfl, (HRd.out.drewN nq).at_ hR (k + 1)⟩
    · have e : k = q := by omega
      subst e
      by_cases hks : k < s.size
      · have hb : ((s[k].toNat : Int) == 32) = false := by
          have := HE.out
          rw [chAt_in hks] at this
          simpa using this
        go_wp2_with fail
        go_quiet (fail)
        go_wp2_with fail
        go_end0
        exact ⟨rfl, HRd.out.drewN _⟩
      · have hge : ¬ (k : Int) < (s.size : Int) := by omega
        go_wp2_with fail
        go_quiet (fail)
        go_wp2_with fail
        go_end0
        exact ⟨rfl, HRd.out.drewN _⟩

set_option maxRecDepth 100000 in
set_option maxHeartbeats 1000000 in
/-- take: the sign stands there. -/
theorem take_yes (w : World) (R : Nat) (s : ByteArray) (g : Int) (p q o : Nat) (c : Int) (hs : s.size ≤ 20000) (h : RdRow w R s g p o) (hk : Skp s p q) (hc0 : 0 ≤ c) (hc : chAt s q = c) :
    Calls Tryd.prog 55 #[.pointer (some ⟨R, 0, none⟩), .int .u8 c] w fun e w' => e = .returned (.bool true) ∧ Rd w w' R s g (q + 1) o := by
  have hR := h.lt
  have HS := Lib.hid (skip_any w R s g p q o hs h hk)
  have hqs := chAt_lt hc hc0
  have hb : ((s[q].toNat : Int) != c) = false := by
    rw [chAt_in hqs] at hc
    simp [hc]
  have hne : ((q : Int) == (s.size : Int)) = false := by simp; omega
  clear h hk hc
  go_enter Tryd.func55, Tryd.ntmps55
  go_wp2_with fail
  refine HS.out.mono ?_
  rintro e w1 ⟨rfl, hRd⟩
  have hl0 := hRd.row.cell (i := 0) rfl
  have hl2 := hRd.row.cell (i := 2) rfl
  have hf2 := hRd.row.frozen 2
  have HRd := Lib.hid hRd
  clear hRd HS
  go_wp2_with fail
  go_quiet (fail)
  go_wp2_with fail
  go_ret
  exact ⟨rfl, (HRd.out.drewN nq).at_ hR (q + 1)⟩

set_option maxRecDepth 100000 in
set_option maxHeartbeats 1000000 in
/-- take: another sign stands there, or none. -/
theorem take_no (w : World) (R : Nat) (s : ByteArray) (g : Int) (p q o : Nat) (c : Int) (hs : s.size ≤ 20000) (h : RdRow w R s g p o) (hk : Skp s p q) (hc : chAt s q ≠ c) :
    Calls Tryd.prog 55 #[.pointer (some ⟨R, 0, none⟩), .int .u8 c] w fun e w' => e = .returned (.bool false) ∧ Rd w w' R s g q o := by
  have HS := Lib.hid (skip_any w R s g p q o hs h hk)
  have hql := hk.2.1
  by_cases hqs : q < s.size
  · have hb : ((s[q].toNat : Int) != c) = true := by
      rw [chAt_in hqs] at hc
      simpa using hc
    have hne : ((q : Int) == (s.size : Int)) = false := by simp; omega
    clear h hk hc
    go_enter Tryd.func55, Tryd.ntmps55
    go_wp2_with fail
    refine HS.out.mono ?_
    rintro e w1 ⟨rfl, hRd⟩
    have hl0 := hRd.row.cell (i := 0) rfl
    have hl2 := hRd.row.cell (i := 2) rfl
    have HRd := Lib.hid hRd
    clear hRd HS
    go_wp2_with fail
    go_quiet (fail)
    go_wp2_with fail
    go_ret
    exact ⟨rfl, HRd.out.drewN _⟩
  · have he : ((q : Int) == (s.size : Int)) = true := by simp; omega
    clear h hk hc
    go_enter Tryd.func55, Tryd.ntmps55
    go_wp2_with fail
    refine HS.out.mono ?_
    rintro e w1 ⟨rfl, hRd⟩
    have hl0 := hRd.row.cell (i := 0) rfl
    have hl2 := hRd.row.cell (i := 2) rfl
    have HRd := Lib.hid hRd
    clear hRd HS
    go_wp2_with fail
    go_quiet (fail)
    go_wp2_with fail
    go_ret
    exact ⟨rfl, HRd.out.drewN _⟩

set_option maxRecDepth 100000 in
theorem limit_ok (n f : Int) (w : World) (hn : n ≤ 4000) : Calls Tryd.prog 54 #[.int .i64 n, .int .i64 f] w fun e w' => e = .returned (.tuple #[]) ∧ w = w' := by
  have hge : ¬ (4000 : Int) < n := by omega
  go_enter Tryd.func54, Tryd.ntmps54
  go_wp2
  go_end0
  exact ⟨rfl, rfl⟩

set_option maxRecDepth 100000 in
set_option maxHeartbeats 1000000 in
/-- letter: a letter of a generator stands there. -/
theorem letter_ok (w : World) (R : Nat) (s : ByteArray) (g : Nat) (q o k : Nat) (hs : s.size ≤ 20000) (hg : g ≤ 16) (h : RdRow w R s g q o) (hk : k < g) (hc : chAt s q = 97 + (k : Int)) :
    Calls Tryd.prog 67 #[.pointer (some ⟨R, 0, none⟩)] w fun e w' => e = .returned (.int .i64 ((k : Int) + 1)) ∧ Rd w w' R s g (q + 1) o := by
  have hR := h.lt
  have hqs := chAt_lt hc (by omega)
  have hb : (s[q].toNat : Int) = 97 + (k : Int) := by rw [chAt_in hqs] at hc; exact hc
  have hl0 := h.cell (i := 0) rfl
  have hl1 := h.cell (i := 1) rfl
  have hl2 := h.cell (i := 2) rfl
  have hf2 := h.frozen 2
  have HR := Lib.hid (Rd.refl h)
  have hlt : (q : Int) < (s.size : Int) := by omega
  have e1 : IntKind.u8.wrap (g : Int) = g := by rw [IntKind.wrap_u8]; omega
  have e2 : IntKind.u8.wrap (97 + (g : Int)) = 97 + (g : Int) := by rw [IntKind.wrap_u8]; omega
  have e3 : IntKind.u8.wrap (97 + (k : Int) - 97) = (k : Int) := by rw [IntKind.wrap_u8]; omega
  have e4 : (97 : Int) ≤ 97 + (k : Int) := by omega
  have e5 : 97 + (k : Int) < 97 + (g : Int) := by omega
  clear h hc
  go_enter Tryd.func67, Tryd.ntmps67
  go_wp2_with fail
  go_quiet (fail)
  rename Nat => n1
  go_wp2_with fail
  go_quiet (fail)
  go_wp2_with fail
  go_ret
  exact ⟨rfl, (HR.out.drewN (n1 + nq)).at_ hR (q + 1)⟩
end Go.Proofs.YtlpepholcehojaaDoor
