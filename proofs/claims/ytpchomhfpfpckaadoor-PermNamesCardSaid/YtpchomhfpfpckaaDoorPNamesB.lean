/- The single answers that PermNames asks for. -/
import Derived.Test.YtpchomhfpfpckaaDoorPTimes
import Derived.Test.YtpchomhfpfpckaaDoorLives
import Derived.Test.YtpchomhfpfpckaaDoorConj
import Derived.Test.YtpchomhfpfpckaaDoorCmp
import Derived.Test.YtpchomhfpfpckaaDoorSign
import Derived.Test.YtpchomhfpfpckaaDoorTypeC
import Derived.Test.YtpchomhfpfpckaaDoorPSameL
import Derived.Test.YtpchomhfpfpckaaDoorTimes
import Derived.Test.YtpchomhfpfpckaaDoorRatio
namespace Go.Proofs.YtpchomhfpfpckaaDoor
open Go Go.RowKit

def LCc : List Int := [0, 2, 1, 3, 4]
/-- A list and no error. -/
def OkP (l : List Int) (w : World) (e : Ending) (w' : World) : Prop := ∃ r, e = .returned (.tuple #[r, .int .i64 0]) ∧ Below w.heap.size w w' ∧ Ints w' w'.heap.size r l
theorem PermErr.okP {x : Int} {l m : List Int} {w w' : World} {e : Ending} (h : PermErr x l w e w') (hx : x = 0) (hl : l = m) : OkP m w e w' := by
  subst hl; subst hx
  obtain ⟨r, he, hb, hi, _⟩ := h
  exact ⟨r, he, hb, hi rfl⟩
theorem nm_mul (v u : Value) (w : World) (hv : Ints w w.heap.size v LB) (hu : Ints w w.heap.size u LA) : Calls Tryd.prog 12 #[v, u] w (OkP [1, 2, 0, 3, 4] w) :=
  (Mul_any v u LB LA w (by decide) (by decide) hv hu).mono fun _ _ h => h.okP (by decide +kernel) (by decide +kernel)
theorem nm_inv (v : Value) (w : World) (hv : Ints w w.heap.size v LA) : Calls Tryd.prog 15 #[v] w (OkP [2, 0, 1, 4, 3] w) :=
  (Inv_any v LA w (by decide) hv).mono fun _ _ h => h.okP (by decide +kernel) (by decide +kernel)
theorem nm_pow1 (v : Value) (w : World) (hv : Ints w w.heap.size v LA) : Calls Tryd.prog 16 #[v, .int .i64 (-1)] w (OkP [2, 0, 1, 4, 3] w) :=
  (Pow_any v LA (-1) w (by decide) (by decide) (by decide) hv).mono fun _ _ h => h.okP (by decide +kernel) (by decide +kernel)
theorem nm_pow7 (v : Value) (w : World) (hv : Ints w w.heap.size v LA) : Calls Tryd.prog 16 #[v, .int .i64 7] w (OkP [1, 2, 0, 4, 3] w) :=
  (Pow_any v LA 7 w (by decide) (by decide) (by decide) hv).mono fun _ _ h => h.okP (by decide +kernel) (by decide +kernel)
theorem nm_conj (v u : Value) (w : World) (hv : Ints w w.heap.size v LA) (hu : Ints w w.heap.size u LCc) : Calls Tryd.prog 17 #[v, u] w (OkP [2, 0, 1, 4, 3] w) :=
  (Conj_any v u LA LCc w (by decide) (by decide) hv hu).mono fun _ _ h => h.okP (by decide +kernel) (by decide +kernel)
theorem nm_comm (v u : Value) (w : World) (hv : Ints w w.heap.size v LA) (hu : Ints w w.heap.size u LCc) : Calls Tryd.prog 18 #[v, u] w (OkP [1, 2, 0, 3, 4] w) :=
  (Comm_any v u LA LCc w (by decide) (by decide) hv hu).mono fun _ _ h => h.okP (by decide +kernel) (by decide +kernel)
theorem nm_one64 (w : World) : Calls Tryd.prog 25 #[.int .i64 64] w (OkP (idL 64) w) :=
  (One_any 64 w).mono fun _ _ h => h.okP (by decide +kernel) rfl
def ErrP (x : Int) (w : World) (e : Ending) (w' : World) : Prop := e = .returned (.tuple #[.slice none 0 0, .int .i64 x]) ∧ Below w.heap.size w w'
theorem PermErr.errP {x y : Int} {l : List Int} {w w' : World} {e : Ending} (h : PermErr x l w e w') (hx : x = y) (hy : y ≠ 0) : ErrP y w e w' := by
  subst hx
  obtain ⟨r, he, hb, _, hn⟩ := h
  rw [hn hy] at he
  exact ⟨he, hb⟩
theorem nm_one65 (w : World) : Calls Tryd.prog 25 #[.int .i64 65] w (ErrP 2 w) :=
  (One_any 65 w).mono fun _ _ h => h.errP (by decide +kernel) (by decide)
theorem nm_mul2 (v u : Value) (w : World) (hv : Ints w w.heap.size v LA) (hu : Ints w w.heap.size u [1, 0]) : Calls Tryd.prog 12 #[v, u] w (ErrP 10 w) :=
  (Mul_any v u LA [1, 0] w (by decide) (by decide) hv hu).mono fun _ _ h => h.errP (by decide +kernel) (by decide)
theorem nm_cycles (v : Value) (w : World) (hv : Ints w w.heap.size v LA) : Calls Tryd.prog 20 #[v] w fun e w' => ∃ r ps, e = .returned (.tuple #[r, .int .i64 0]) ∧ Below w.heap.size w w' ∧ Lists2 w' w'.heap.size r ps ∧ ps.map Prod.snd = [[0, 1, 2], [3, 4]] := by
  have h := Cycles_any v LA w (by decide) hv
  rw [show chk LA = 0 by decide +kernel, show cyclesV LA = [[0, 1, 2], [3, 4]] by decide +kernel] at h
  exact h
def OkI (l : List Int) (w : World) (e : Ending) (w' : World) : Prop := OkP l w e w'
theorem srt_is {L M : List Int} (hp : M.Perm L) (hs : M.Pairwise fun a b => b ≤ a) : (srt L).reverse = M := by
  have tr : ∀ a b c : Int, decide (a ≤ b) = true → decide (b ≤ c) = true → decide (a ≤ c) = true := fun a b c h1 h2 => by simp at *; omega
  have to : ∀ a b : Int, (decide (a ≤ b) || decide (b ≤ a)) = true := fun a b => by simp; omega
  have h5 := List.pairwise_mergeSort tr to L
  refine List.Perm.eq_of_pairwise (le := fun a b => b ≤ a) (fun a b _ _ h1 h2 => by omega) ?_ hs (((List.reverse_perm _).trans (List.mergeSort_perm L _)).trans hp.symm)
  rw [List.pairwise_reverse]
  exact h5.imp (fun h => by simpa using h)
theorem nm_typeA (v : Value) (w : World) (hv : Ints w w.heap.size v LA) : Calls Tryd.prog 21 #[v] w (OkP [3, 2] w) := by
  have h := Type_any v LA w (by decide) hv
  rw [show chk LA = 0 by decide +kernel, show typeV LA = [3, 2] by unfold typeV; rw [if_pos (by decide +kernel)]; exact srt_is (by decide +kernel) (by decide +kernel)] at h
  exact h
theorem nm_typeB (v : Value) (w : World) (hv : Ints w w.heap.size v LB) : Calls Tryd.prog 21 #[v] w (OkP [2, 1, 1, 1] w) := by
  have h := Type_any v LB w (by decide) hv
  rw [show chk LB = 0 by decide +kernel, show typeV LB = [2, 1, 1, 1] by unfold typeV; rw [if_pos (by decide +kernel)]; exact srt_is (by decide +kernel) (by decide +kernel)] at h
  exact h
theorem nm_sign (v : Value) (w : World) (hv : Ints w w.heap.size v LA) : Calls Tryd.prog 22 #[v] w fun e w' => e = .returned (.tuple #[.int .i64 (-1), .int .i64 0]) ∧ Below w.heap.size w w' := by
  have h := Sign_any v LA w (by decide) hv
  rw [show chk LA = 0 by decide +kernel, show signV LA = -1 by decide +kernel] at h
  exact h
theorem nm_text (v : Value) (w : World) (hv : Ints w w.heap.size v (idL 64)) : Calls Tryd.prog 26 #[v] w fun e w' => e = .returned (.tuple #[.string ⟨#[40, 41]⟩, .int .i64 0]) ∧ Below w.heap.size w w' := by
  have h := Text_any v (idL 64) w (by decide +kernel) hv
  rw [show textOk (idL 64) = [40, 41] by decide +kernel] at h
  exact h
/-- Text and error of Times and Ratio. -/
theorem nm_t1 (w : World) : Calls Tryd.prog 33 #[.string ⟨#[57, 57, 57, 57, 57, 57, 57, 57, 57, 57, 57, 57]⟩, .int .i64 1000] w fun e w' => e = .returned (.tuple #[.string ⟨#[57, 57, 57, 57, 57, 57, 57, 57, 57, 57, 57, 57, 48, 48, 48]⟩, .int .i64 0]) ∧ Below w.heap.size w w' := by
  have h := times_any ⟨#[57, 57, 57, 57, 57, 57, 57, 57, 57, 57, 57, 57]⟩ 1000 (by decide) w
  rw [show timesV (⟨#[57, 57, 57, 57, 57, 57, 57, 57, 57, 57, 57, 57]⟩ : ByteArray).data.toList 1000 = ([57, 57, 57, 57, 57, 57, 57, 57, 57, 57, 57, 57, 48, 48, 48], 0) by decide +kernel] at h
  exact h
theorem nm_r (k : Int) (x : List UInt8) (y : Int) (hx : ratioV [54] k = (x, y)) (w : World) : Calls Tryd.prog 34 #[.string ⟨#[54]⟩, .int .i64 k] w fun e w' => e = .returned (.tuple #[.string ⟨x.toArray⟩, .int .i64 y]) ∧ Below w.heap.size w w' := by
  have h := ratio_any ⟨#[54]⟩ k (by decide) w
  rw [show (⟨#[54]⟩ : ByteArray).data.toList = [54] from rfl, hx] at h
  exact h
theorem nm_r4 (w : World) : Calls Tryd.prog 34 #[.string ⟨#[54]⟩, .int .i64 4] w fun e w' => e = .returned (.tuple #[.string ⟨#[]⟩, .int .i64 18]) ∧ Below w.heap.size w w' := nm_r 4 [] 18 (by decide +kernel) w
theorem nm_r3 (w : World) : Calls Tryd.prog 34 #[.string ⟨#[54]⟩, .int .i64 3] w fun e w' => e = .returned (.tuple #[.string ⟨#[50]⟩, .int .i64 0]) ∧ Below w.heap.size w w' := nm_r 3 [50] 0 (by decide +kernel) w
theorem nm_r0 (w : World) : Calls Tryd.prog 34 #[.string ⟨#[54]⟩, .int .i64 0] w fun e w' => e = .returned (.tuple #[.string ⟨#[]⟩, .int .i64 6]) ∧ Below w.heap.size w w' := nm_r 0 [] 6 (by decide +kernel) w
theorem nm_t2 (w : World) : Calls Tryd.prog 33 #[.string ⟨#[48]⟩, .int .i64 2] w fun e w' => e = .returned (.tuple #[.string ⟨#[]⟩, .int .i64 3]) ∧ Below w.heap.size w w' := by
  have h := times_any ⟨#[48]⟩ 2 (by decide) w
  rw [show timesV (⟨#[48]⟩ : ByteArray).data.toList 2 = ([], 3) by decide +kernel] at h
  exact h
/-- Many of one byte. -/
theorem nm_many (c : UInt8) (n : Nat) (w : World) (h1 : 1 ≤ n) (hn : n ≤ 30000) : Calls Tryd.prog 30 #[.string ⟨#[c]⟩, .int .i64 (n : Int)] w fun e w' => ∃ tx, e = .returned (.string tx) ∧ tx.data.toList = List.replicate n c ∧ Below w.heap.size w w' :=
  (kitTimes_any c n w h1 hn).mono fun _ _ ⟨he, hb⟩ => ⟨_, he, by simp, hb⟩
theorem many_size {tx : ByteArray} {n : Nat} {c : UInt8} (h : tx.data.toList = List.replicate n c) : tx.size = n := by
  have := congrArg List.length h
  simpa using this
theorem nm_tm (tx : ByteArray) (n : Nat) (k : Int) (x : List UInt8) (y : Int) (hx : tx.data.toList = List.replicate n 57) (hn : n ≤ 300) (hv : timesV (List.replicate n 57) k = (x, y)) (w : World) :
    Calls Tryd.prog 33 #[.string tx, .int .i64 k] w fun e w' => ∃ ty, e = .returned (.tuple #[.string ty, .int .i64 y]) ∧ ty.size = x.length ∧ Below w.heap.size w w' := by
  have h := times_any tx k (by rw [many_size hx]; omega) w
  rw [hx, hv] at h
  exact h.mono fun _ _ ⟨he, hb⟩ => ⟨_, he, by simp [ByteArray.size], hb⟩
theorem nm_t200 (tx : ByteArray) (hx : tx.data.toList = List.replicate 200 57) (w : World) : Calls Tryd.prog 33 #[.string tx, .int .i64 2] w fun e w' => ∃ ty, e = .returned (.tuple #[.string ty, .int .i64 5]) ∧ ty.size = 0 ∧ Below w.heap.size w w' := nm_tm tx 200 2 [] 5 hx (by decide) (by decide +kernel) w
theorem nm_t199 (tx : ByteArray) (hx : tx.data.toList = List.replicate 199 57) (w : World) : Calls Tryd.prog 33 #[.string tx, .int .i64 10] w fun e w' => ∃ ty, e = .returned (.tuple #[.string ty, .int .i64 0]) ∧ ty.size = 200 ∧ Below w.heap.size w w' := by
  have h := nm_tm tx 199 10 (List.replicate 199 57 ++ [48]) 0 hx (by decide) (by decide +kernel) w
  exact h.mono fun _ _ ⟨ty, he, hs, hb⟩ => ⟨ty, he, hs.trans (by rw [List.length_append, List.length_replicate]; rfl), hb⟩
theorem nm_t201 (tx : ByteArray) (hx : tx.data.toList = List.replicate 201 57) (w : World) : Calls Tryd.prog 33 #[.string tx, .int .i64 1] w fun e w' => ∃ ty, e = .returned (.tuple #[.string ty, .int .i64 3]) ∧ ty.size = 0 ∧ Below w.heap.size w w' := nm_tm tx 201 1 [] 3 hx (by decide) (by decide +kernel) w
theorem nm_chk (v : Value) (l : List Int) (x : Int) (w : World) (hl : l.length ≤ 100) (hx : chk l = x) (hv : Ints w w.heap.size v l) : Calls Tryd.prog 31 #[v] w fun e w' => e = .returned (.int .i64 x) ∧ Below w.heap.size w w' := by
  have h := check1_any v l w (by omega) hv
  rwa [hx] at h
theorem nm_cmp (v u : Value) (l m : List Int) (x : Int) (w : World) (hl : l.length ≤ 100) (hm : m.length ≤ 100) (hx : cmpAt l m 0 = x) (hv : Ints w w.heap.size v l) (hu : Ints w w.heap.size u m) : Calls Tryd.prog 32 #[v, u] w fun e w' => e = .returned (.int .i64 x) ∧ w' = w := by
  have h := Cmp_any w.heap.size v u l m w (by omega) (by omega) hv hu
  rwa [hx] at h
theorem OwnsI.toInts {w : World} {B : Nat} {v : Value} {l : List Int} (h : OwnsI w B v l) : Ints w w.heap.size v l := ints_of_own h rfl
theorem nm_kone (n : Nat) (w : World) (hn : n ≤ 1000) : Calls Tryd.prog 28 #[.int .i64 (n : Int)] w fun e w' => ∃ v, e = .returned v ∧ Ints w' w'.heap.size v (idL n) ∧ Below w.heap.size w w' :=
  (kitOne_any n w (by omega)).mono fun _ _ ⟨v, he, ho, hb⟩ => ⟨v, he, ho.toInts, hb⟩

def LiveN (w : World) (L : List (Value × List Int)) : Prop := ∀ (i : Nat) p, L[i]? = some p → Ints w w.heap.size p.1 p.2
theorem LiveN.nil (w : World) : LiveN w [] := fun i p h => by simp at h
theorem LiveN.below {w w' : World} {L : List (Value × List Int)} (h : LiveN w L) (hb : Below w.heap.size w w') : LiveN w' L := fun i p hp => ((h i p hp).below hb).more hb.size
theorem LiveN.push {w : World} {L : List (Value × List Int)} {r : Value} {l : List Int} (h : LiveN w L) (hi : Ints w w.heap.size r l) : LiveN w ((r, l) :: L) := fun i p hp => by
  cases i with
  | zero =>
    have e : p = (r, l) := by simpa using hp.symm
    subst e
    exact hi
  | succ i => exact h i p (by simpa using hp)
theorem LiveN.tail {w : World} {L : List (Value × List Int)} {x : Value × List Int} (h : LiveN w (x :: L)) : LiveN w L := fun i p hp => h (i + 1) p (by simpa using hp)
theorem allocB (w : World) (o : Obj) : Below w.heap.size w (w.alloc o) := (Below.refl _ w).alloc (Nat.le_refl _) o
theorem drewB {w w' : World} (h : ∃ n, w' = w.drewN n) : Below w.heap.size w w' := by
  obtain ⟨n, rfl⟩ := h
  exact ⟨rfl, rfl, rfl, Nat.le_refl _, fun _ _ => rfl⟩
theorem nm_is (v u : Value) (l : List Int) (w : World) (hl : l.length ≤ 100) (hv : Ints w w.heap.size v l) (hu : Ints w w.heap.size u l) : Calls Tryd.prog 19 #[v, .int .i64 0, u] w fun e w' => e = .returned (.bool true) ∧ Below w.heap.size w w' := by
  have h := is_any v u w.heap.size l l w (by omega) hv hu
  rw [show sameB l l = true by simp [sameB]] at h
  exact h.mono fun _ _ ⟨he, hm⟩ => ⟨he, drewB hm⟩
theorem nm_same (v u : Value) (l : List Int) (w : World) (hl : l.length ≤ 100) (hv : Ints w w.heap.size v l) (hu : Ints w w.heap.size u l) : Calls Tryd.prog 24 #[v, u] w fun e w' => e = .returned (.bool true) ∧ Below w.heap.size w w' :=
  (sameRn l v u w (by omega) hv hu).mono fun _ _ ⟨he, hm⟩ => ⟨he, drewB hm⟩
theorem nm_lists (v u : Value) (ps qs : List Pt) (w : World) (hp : ps.map Prod.snd = [[0, 1, 2], [3, 4]]) (hq : qs.map Prod.snd = [[0, 1, 2], [3, 4]]) (hv : Lists2 w w.heap.size v ps) (hu : Lists2 w w.heap.size u qs) : Calls Tryd.prog 23 #[v, u] w fun e w' => e = .returned (.bool true) ∧ Below w.heap.size w w' := by
  refine (sameLists_n v u ps qs w ?_ ?_ (hp.trans hq.symm) hv hu).mono fun _ _ ⟨he, hm⟩ => ⟨he, drewB hm⟩
  · have := congrArg List.length hp
    simp at this
    omega
  · intro p hpp
    have : p.2 ∈ ps.map Prod.snd := List.mem_map_of_mem hpp
    rw [hp] at this
    simp at this
    rcases this with h | h <;> rw [h] <;> decide
theorem lit_lists (w : World) :
    Lists2 (((w.alloc (.cells #[.int .i64 0, .int .i64 1, .int .i64 2] 3)).alloc (.cells #[.int .i64 3, .int .i64 4] 3)).alloc (.cells #[.slice (some ⟨w.heap.size, 0, none⟩) 3 3, .slice (some ⟨w.heap.size + 1, 0, none⟩) 2 2] 23)) (((w.alloc (.cells #[.int .i64 0, .int .i64 1, .int .i64 2] 3)).alloc (.cells #[.int .i64 3, .int .i64 4] 3)).alloc (.cells #[.slice (some ⟨w.heap.size, 0, none⟩) 3 3, .slice (some ⟨w.heap.size + 1, 0, none⟩) 2 2] 23)).heap.size (.slice (some ⟨w.heap.size + 2, 0, none⟩) 2 2)
      [(.slice (some ⟨w.heap.size, 0, none⟩) 3 3, [0, 1, 2]), (.slice (some ⟨w.heap.size + 1, 0, none⟩) 2 2, [3, 4])] := by
  have e1 : (w.alloc (.cells #[.int .i64 0, .int .i64 1, .int .i64 2] 3)).heap.size = w.heap.size + 1 := by simp
  have e2 : ((w.alloc (.cells #[.int .i64 0, .int .i64 1, .int .i64 2] 3)).alloc (.cells #[.int .i64 3, .int .i64 4] 3)).heap.size = w.heap.size + 2 := by simp
  rw [show (((w.alloc (.cells #[.int .i64 0, .int .i64 1, .int .i64 2] 3)).alloc (.cells #[.int .i64 3, .int .i64 4] 3)).alloc (.cells #[.slice (some ⟨w.heap.size, 0, none⟩) 3 3, .slice (some ⟨w.heap.size + 1, 0, none⟩) 2 2] 23)).heap.size = w.heap.size + 3 by simp]
  have h1 := ints_lit w [0, 1, 2] #[.int .i64 0, .int .i64 1, .int .i64 2] 3 rfl
  have h2 := ints_lit (w.alloc (.cells #[.int .i64 0, .int .i64 1, .int .i64 2] 3)) [3, 4] #[.int .i64 3, .int .i64 4] 2 rfl
  have h3 := Row.new ((w.alloc (.cells #[.int .i64 0, .int .i64 1, .int .i64 2] 3)).alloc (.cells #[.int .i64 3, .int .i64 4] 3)) 23 #[.slice (some ⟨w.heap.size, 0, none⟩) 3 3, .slice (some ⟨w.heap.size + 1, 0, none⟩) 2 2]
  rw [e1] at h1 h2
  rw [e2] at h2 h3
  have k1 := ((h1.below ((Below.refl _ _).alloc (by simp) (.cells #[.int .i64 3, .int .i64 4] 3))).below ((Below.refl (w.heap.size + 1) _).alloc (by simp) (.cells #[.slice (some ⟨w.heap.size, 0, none⟩) 3 3, .slice (some ⟨w.heap.size + 1, 0, none⟩) 2 2] 23)))
  have k2 := h2.below ((Below.refl (w.heap.size + 2) _).alloc (by simp) (.cells #[.slice (some ⟨w.heap.size, 0, none⟩) 3 3, .slice (some ⟨w.heap.size + 1, 0, none⟩) 2 2] 23))
  refine ⟨⟨_, 2, rfl, fun _ => ⟨w.heap.size + 2, 0, rfl, by omega, fun j p hp => ?_⟩⟩, fun p hp => ?_⟩
  · match j, hp with
    | 0, hp => injection hp with hp; subst hp; exact h3.cell (i := 0) rfl
    | 1, hp => injection hp with hp; subst hp; exact h3.cell (i := 1) rfl
    | j + 2, hp => simp at hp
  · simp at hp
    rcases hp with rfl | rfl
    · exact k1.more (by omega)
    · exact k2.more (by omega)
theorem nm_f2 (w : World) : Calls Tryd.prog 29 #[.string ⟨#[40, 48, 32, 49]⟩, .int .i64 5, .int .i64 11, .int .i64 4] w fun e w' => e = .returned (.bool true) ∧ Below w.heap.size w w' := faults_any _ 5 11 4 w (by decide) (by decide) (by decide) parse_ex2
theorem nm_f3 (w : World) : Calls Tryd.prog 29 #[.string ⟨#[40, 48, 32, 53, 41]⟩, .int .i64 5, .int .i64 2, .int .i64 3] w fun e w' => e = .returned (.bool true) ∧ Below w.heap.size w w' := faults_any _ 5 2 3 w (by decide) (by decide) (by decide) parse_ex3
theorem nm_f4 (w : World) : Calls Tryd.prog 29 #[.string ⟨#[40, 48, 32, 49, 41, 40, 49, 32, 50, 41]⟩, .int .i64 5, .int .i64 8, .int .i64 6] w fun e w' => e = .returned (.bool true) ∧ Below w.heap.size w w' := faults_any _ 5 8 6 w (by decide) (by decide) (by decide) parse_ex4
theorem nm_f5 (w : World) : Calls Tryd.prog 29 #[.string ⟨#[40, 48, 49, 32, 50, 41]⟩, .int .i64 5, .int .i64 11, .int .i64 1] w fun e w' => e = .returned (.bool true) ∧ Below w.heap.size w w' := faults_any _ 5 11 1 w (by decide) (by decide) (by decide) parse_ex5
theorem nm_f6 (w : World) : Calls Tryd.prog 29 #[.string ⟨#[48]⟩, .int .i64 5, .int .i64 11, .int .i64 0] w fun e w' => e = .returned (.bool true) ∧ Below w.heap.size w w' := faults_any _ 5 11 0 w (by decide) (by decide) (by decide) parse_ex6
theorem nm_f7 (w : World) : Calls Tryd.prog 29 #[.string ⟨#[]⟩, .int .i64 65, .int .i64 2, .int .i64 0] w fun e w' => e = .returned (.bool true) ∧ Below w.heap.size w w' := faults_any _ 65 2 0 w (by decide) (by decide) (by decide) parse_ex7
theorem nm_f8 (tx : ByteArray) (h : tx.data.toList = List.replicate 20001 32) (w : World) : Calls Tryd.prog 29 #[.string tx, .int .i64 2, .int .i64 4, .int .i64 20000] w fun e w' => e = .returned (.bool true) ∧ Below w.heap.size w w' := by
  have hs := many_size h
  exact faults_any tx 2 4 20000 w (by decide) (by decide) (by omega) (parse_ex8 tx hs)
theorem nm_parse (w : World) : Calls Tryd.prog 27 #[.string ⟨#[32, 40, 51, 32, 52, 41, 32, 40, 32, 49, 32, 50, 32, 48, 41, 40, 41, 32]⟩, .int .i64 5] w fun e w' => ∃ v, e = .returned (.tuple #[v, .agg #[.int .i64 0, .int .i64 0]]) ∧ Ints w' w'.heap.size v LA ∧ Below w.heap.size w w' :=
  Parse_any w _ 5 _ (by decide) (by decide) (by decide) parse_ex1
theorem Ints.nil0 (w : World) (B : Nat) : Ints w B (.slice none 0 0) [] := ⟨none, 0, rfl, fun h => by simp at h⟩
end Go.Proofs.YtpchomhfpfpckaaDoor
