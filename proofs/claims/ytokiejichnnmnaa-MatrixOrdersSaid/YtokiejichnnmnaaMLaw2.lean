/- The laws' walks: determinants, inverses, powers, orders of the matrices that live. -/
import Derived.Test.YtokiejichnnmnaaMLaw
import Derived.Test.YtokiejichnnmnaaMPowD
import Derived.Test.YtokiejichnnmnaaMGLin
namespace Go.Proofs.Ytokiejichnnmnaa
open Go Go.RowKit Num

theorem wrap_mul {x y m : Nat} (h : x * y = m) (hm : m ≤ 1000000000000) : IntKind.i64.wrap ((x : Int) * (y : Int)) = (m : Int) := by
  rw [← Int.natCast_mul, h]; exact IntWalk.i64_in _ ⟨by omega, by omega⟩
theorem Sized.p1 {p n : Nat} (h : Sized p n) : (1 : Int) < (p : Int) := by have := h.p2; omega
theorem Sized.inv {p n : Nat} (h : Sized p n) : Invs (p : Int) := invs_mod h.hp
theorem Sized.chkS {p n : Nat} (h : Sized p n) {f : Nat → Nat → Int} (hf : InG (p : Int) n n f) : 0 = chkS (chkM (p : Int) n (fun _ => n) f) n n := (chkS_0 (h.chk hf) rfl).symm
theorem detL {p n : Nat} (hs : Sized p n) {W : World} {L : List MatE} (h : ML W (p : Int) n L) (i : Nat) {x : MatE} (hi : L[i]? = some x) (d : Nat) (hd : detV p n x.f = d) :
    Calls Try.prog 62 #[.agg #[.int .i64 p, .slice x.A n x.c]] W fun e w' => e = .returned (.tuple #[.int .i64 d, .int .i64 0]) ∧ Below W.heap.size W w' := by
  obtain ⟨_, g1, f1⟩ := h i x hi
  have hn := hs.n2
  exact (Det_any _ n (fun _ => n) x.f p W (by omega) (fun _ _ => by omega) g1 0 (hs.chkS f1)).mono fun e w' h => by rw [if_pos rfl, hd] at h; exact h
theorem invL {p n : Nat} (hs : Sized p n) {W : World} {L : List MatE} (h : ML W (p : Int) n L) (i : Nat) {x : MatE} (hi : L[i]? = some x) (hd : detV p n x.f ≠ 0) :
    Calls Try.prog 54 #[.agg #[.int .i64 p, .slice x.A n x.c]] W (GivesX W p n (invF p n x.f)) := by
  obtain ⟨_, g1, f1⟩ := h i x hi
  have hn := hs.n2
  exact (Inv_any _ n (fun _ => n) x.f p W (by omega) (fun _ _ => by omega) g1 0 (hs.chkS f1)).mono fun e w' h => .of (invF_left hs.p1 hs.inv f1 hd).1 ((h.2 rfl).2 (by rwa [detV_aug hs.p1 hs.inv f1]))
theorem invL0 {p n : Nat} (hs : Sized p n) {W : World} {L : List MatE} (h : ML W (p : Int) n L) (i : Nat) {x : MatE} (hi : L[i]? = some x) (hd : detV p n x.f = 0) :
    Calls Try.prog 54 #[.agg #[.int .i64 p, .slice x.A n x.c]] W (BadM W 15) := by
  obtain ⟨_, g1, f1⟩ := h i x hi
  have hn := hs.n2
  exact (Inv_any _ n (fun _ => n) x.f p W (by omega) (fun _ _ => by omega) g1 0 (hs.chkS f1)).mono fun e w' h => (h.2 rfl).1 (by rwa [detV_aug hs.p1 hs.inv f1])
theorem powZ_in {p n : Nat} (hs : Sized p n) {f : Nat → Nat → Int} (_hf : InG (p : Int) n n f) (_hd : detV p n f ≠ 0) (k : Int) : InG (p : Int) n n (powZ p n f k) := by
  have hp := hs.p2
  unfold powZ
  split
  · exact powF_in (by omega) _
  · exact powF_in (by omega) _
theorem powL {p n : Nat} (hs : Sized p n) {W : World} {L : List MatE} (h : ML W (p : Int) n L) (i : Nat) {x : MatE} (hi : L[i]? = some x) (hd : detV p n x.f ≠ 0) (k : Int) (hk : k.natAbs ≤ 1000000) :
    Calls Try.prog 53 #[.agg #[.int .i64 p, .slice x.A n x.c], .int .i64 k] W (GivesX W p n (powZ p n x.f k)) := by
  obtain ⟨_, g1, f1⟩ := h i x hi
  have hn := hs.n2
  have hin := powZ_in hs f1 hd k
  by_cases hk0 : k < 0
  · refine (Pow_neg _ n (fun _ => n) x.f p k W hk0 (by omega) (by omega) (fun _ _ => by omega) g1 (hs.chkS f1)).mono fun e w' h => .of hin ?_
    have := h.2 (by rwa [detV_aug hs.p1 hs.inv f1])
    unfold powZ
    rw [if_pos hk0]; exact this
  · obtain ⟨j, rfl⟩ : ∃ j : Nat, k = j := ⟨k.toNat, by omega⟩
    refine (Pow_pos _ n (fun _ => n) x.f p j W (by omega) (by omega) (fun _ _ => by omega) g1 (hs.chkS f1)).mono fun e w' h => .of hin ?_
    unfold powZ
    rw [if_neg hk0, Int.natAbs_natCast]; exact h
theorem powL0 {p n : Nat} (hs : Sized p n) {W : World} {L : List MatE} (h : ML W (p : Int) n L) (i : Nat) {x : MatE} (hi : L[i]? = some x) (hd : detV p n x.f = 0) (k : Int) (hk : k < 0) (hk2 : -9223372036854775808 ≤ k) :
    Calls Try.prog 53 #[.agg #[.int .i64 p, .slice x.A n x.c], .int .i64 k] W (BadM W 15) := by
  obtain ⟨_, g1, f1⟩ := h i x hi
  have hn := hs.n2
  exact (Pow_neg _ n (fun _ => n) x.f p k W hk hk2 (by omega) (fun _ _ => by omega) g1 (hs.chkS f1)).mono fun e w' h => h.1 (by rwa [detV_aug hs.p1 hs.inv f1])
theorem ordL {p n : Nat} (hs : Sized p n) {W : World} {L : List MatE} (h : ML W (p : Int) n L) (i : Nat) {x : MatE} (hi : L[i]? = some x) :
    Calls Try.prog 56 #[.agg #[.int .i64 p, .slice x.A n x.c]] W (OrdP W (ordV p n x.f 0)) := by
  obtain ⟨_, g1, f1⟩ := h i x hi
  have hn := hs.n2
  exact Order_any _ n (fun _ => n) x.f p W (by omega) (fun _ _ => by omega) g1 0 (hs.chkS f1)
/-- The zero matrix that an error leaves, boxed beside the others. -/
theorem ML.more {w w' : World} {p : Int} {n : Nat} {L : List MatE} (h : ML w p n L) (hb : Below w.heap.size w w') (o : Obj) : ML (w'.alloc o) p n L := (h.below hb).below ((Below.refl _ _).alloc (Nat.le_refl _) o)
set_option maxRecDepth 100000 in
theorem bad_yes (w : World) : Calls Try.prog 55 #[.agg #[.int .i64 0, .slice none 0 0], .int .i64 15, .int .i64 15] w fun e w' => e = .returned (.bool true) ∧ Below w.heap.size w w' := by
  have HB := Lib.hid ((Below.refl w.heap.size w).alloc (Nat.le_refl _) (.cells #[.int .i64 0, .slice none 0 0] 61))
  go_enter Try.func55, Try.ntmps55
  go_wp2
  go_ret
  exact ⟨rfl, HB.out⟩
theorem ml_2 {w : World} {p : Int} {n c1 c2 : Nat} {A1 A2 : Option Addr} {f1 f2 : Nat → Nat → Int} (g1 : Grid w (· < w.heap.size) (.slice A1 n c1) n (fun _ => n) f1) (g2 : Grid w (· < w.heap.size) (.slice A2 n c2) n (fun _ => n) f2)
    (h1 : InG p n n f1) (h2 : InG p n n f2) :
    ML ((w.alloc (.cells #[.int .i64 p, .slice A1 n c1] 61)).alloc (.cells #[.int .i64 p, .slice A2 n c2] 61)) p n
      [⟨w.heap.size + 1, A2, c2, f2⟩, ⟨w.heap.size, A1, c1, f1⟩] := by
  have b1 : Below w.heap.size w (w.alloc (.cells #[.int .i64 p, .slice A1 n c1] 61)) := (Below.refl _ _).alloc (Nat.le_refl _) _
  have b2 := b1.alloc (by simp) (.cells #[.int .i64 p, .slice A2 n c2] 61)
  intro i x hi
  match i, hi with
  | 0, hi => injection hi with hi; subst hi; exact ⟨row_new (by simp) _ _, g2.on b2, h2⟩
  | 1, hi => injection hi with hi; subst hi; exact ⟨(row_new rfl _ _).alloc _, g1.on b2, h1⟩
end Go.Proofs.Ytokiejichnnmnaa
