/- linear: modulus.residue, divide, subtract. -/
import Derived.Test.YtinoomcboinokaaGreatLTurn
import Derived.Test.YtinoomcboinokaaGreatMComb
import Derived.WalkKit
namespace Go.Proofs.YtinoomcboinokaaGreat
open Go Go.RowKit Num

/-- The inverse of a residue. -/
def invI (p a : Int) : Int := ((a.toNat ^ (p.toNat - 2) % p.toNat : Nat) : Int)
theorem invI_in {p a : Int} (hp : 2 ≤ p) : 0 ≤ invI p a ∧ invI p a < p := by
  unfold invI
  have := Nat.mod_lt (a.toNat ^ (p.toNat - 2)) (show 0 < p.toNat by omega)
  omega
theorem primeInv_any (a p : Int) (w : World) (hp : P6 p.toNat) (hp0 : 0 ≤ p) (ha : 0 < a ∧ a < p) :
    Calls Tryz.prog 93 #[.int .i64 a, .int .i64 p] w fun e w' => e = .returned (.tuple #[.int .i64 (invI p a), .int .i64 0]) ∧ w' = w.alloc (.cells #[.int .i64 p] 3) := by
  obtain ⟨an, rfl⟩ : ∃ an : Nat, a = an := ⟨a.toNat, by omega⟩
  obtain ⟨pn, rfl⟩ : ∃ pn : Nat, p = pn := ⟨p.toNat, by omega⟩
  rw [Int.toNat_natCast] at hp
  have h := Inv_ok an pn w hp (by rw [resV_nat (by omega)]; omega)
  rw [resV_nat (by omega)] at h
  exact h
set_option maxRecDepth 100000 in
set_option maxHeartbeats 400000 in
theorem residue_any (p x : Int) (w : World) (hp : P6 p.toNat) (hp0 : 0 ≤ p) : Calls Tryz.prog 30 #[.int .i64 p, .int .i64 x] w fun e w' => e = .returned (.int .i64 (x % p)) ∧ w' = w := by
  obtain ⟨pn, rfl⟩ : ∃ pn : Nat, p = pn := ⟨p.toNat, by omega⟩
  rw [Int.toNat_natCast] at hp
  have HM := Lib.hid (Mod_ok x pn w hp)
  rw [resV_cast x hp.ge] at HM
  generalize x % (pn : Int) = z at HM
  go_enter Tryz.func30, Tryz.ntmps30
  go_wp2_with fail
  refine HM.out.mono ?_
  rintro e w' ⟨rfl, rfl⟩
  go_wp2
  go_ret
  exact ⟨rfl, rfl⟩

/-- i entries are divided. -/
def divTo (p k : Int) (f : Nat → Int) (i j : Nat) : Int := if j < i then f j * k % p else f j
theorem divTo_step (p k : Int) (f : Nat → Int) (i : Nat) : (fun j => if j = i then f i * k % p else divTo p k f i j) = divTo p k f (i + 1) := by
  funext j
  unfold divTo
  by_cases e : j = i
  · subst e; rw [if_pos rfl, if_pos (by omega)]
  · rw [if_neg e]
    by_cases h : j < i
    · rw [if_pos h, if_pos (by omega)]
    · rw [if_neg h, if_neg (by omega)]
/-- A row of block g has been written; nothing else has changed. -/
def RowPost (g n : Nat) (f : Nat → Int) (w : World) (e : Ending) (w' : World) : Prop := e = .returned (.tuple #[]) ∧ RowI w' g n f ∧ Turn (· = g) w w'
set_option maxRecDepth 100000 in
set_option maxHeartbeats 1000000 in
theorem divide_any (p k : Int) (g n c : Nat) (f : Nat → Int) (w : World) (hn : n ≤ 1000) (hp : P6 p.toNat) (hp0 : 2 ≤ p) (hp1 : p ≤ 10000) (hk : 0 < k ∧ k < p) (h : RowI w g n f) (hf : InP p n f) :
    Calls Tryz.prog 85 #[.int .i64 p, .slice (some ⟨g, 0, none⟩) n c, .int .i64 k] w (RowPost g n (fun j => f j * invI p k % p) w) := by
  have HI := Lib.hid (primeInv_any k p w hp (by omega) hk)
  have hi := invI_in (p := p) (a := k) hp0
  have hT : Turn (· = g) w (w.alloc (.cells #[.int .i64 p] 3)) := (Turn.refl _ _).alloc _
  have h1 : RowI (w.alloc (.cells #[.int .i64 p] 3)) g n (divTo p (invI p k) f 0) := (h.turn (S := fun _ => False) ((Turn.refl _ _).alloc _) id).congr fun j _ => by simp [divTo]
  have HE := Lib.hid (show ∀ wr, RowI wr g n (divTo p (invI p k) f n) → RowI wr g n (fun j => f j * invI p k % p) from fun wr h => h.congr fun j hj => by simp [divTo, hj])
  generalize invI p k = q at HI hi h1 HE
  have HT := Lib.hid hT
  have H1 := Lib.hid h1
  have HF := Lib.hid hf
  have hp2 : (p != 0) = true := by simp; omega
  clear hT h1 h hf
  go_enter Tryz.func85, Tryz.ntmps85
  go_wp2_with fail
  refine HI.out.mono ?_
  rintro e w' ⟨rfl, rfl⟩
  generalize w.alloc (.cells #[.int .i64 p] 3) = w1 at HT H1
  go_wp2
  go_loopw [18] (fun i wr => ∃ j : Nat, i = .int .i64 j ∧ j ≤ n ∧ Hid (RowI wr g n (divTo p q f j)) ∧ Hid (Turn (· = g) w wr)) (fun i _ => n - (intOf i).toNat)
  case atStart => exact ⟨0, rfl, Nat.zero_le _, H1, HT⟩
  case round =>
    obtain ⟨j, rfl, hj, HA, HB⟩ := hrel
    by_cases hlt : j < n
    · have hx : wr.cell? ⟨g, j, none⟩ = some (.int .i64 (f j)) := by have := HA.out.cell hlt; rwa [show divTo p q f j j = f j by simp [divTo]] at this
      have hfz := HA.out.frozen j
      have hin := HF.out j hlt
      have hm := mul_in (a := f j) (b := q) (p := p) (q := p) ⟨hin.1, by omega⟩ ⟨hi.1, by omega⟩ hp1 hp1
      have HS := Lib.hid (HA.out.set j (f j * q % p))
      rw [divTo_step] at HS
      generalize f j = x at hx hin hm HS
      obtain ⟨m, hmm⟩ : ∃ m, x * q = m := ⟨_, rfl⟩
      have hw : IntKind.i64.wrap (x * q) = m := by rw [hmm]; exact IntWalk.i64_in _ ⟨by omega, by omega⟩
      rw [hmm] at hm HS
      have hr : m.tmod p = m % p := Int.tmod_eq_emod_of_nonneg (by omega)
      have hr1 : 0 ≤ m % p := Int.emod_nonneg _ (by omega)
      have hr2 : m % p < p := Int.emod_lt_of_pos _ (by omega)
      have hw3 : IntKind.i64.wrap (m % p) = m % p := IntWalk.i64_in _ ⟨by omega, by omega⟩
      have HTT := Lib.hid (HB.out.setCell ⟨g, j, none⟩ rfl (.int .i64 (m % p)))
      clear hmm
      go_wp2
      go_roundw
      case rel => exact ⟨j + 1, by go_num, by omega, HS, HTT⟩
      case measure => simp [intOf]; omega
    · obtain rfl : j = n := by omega
      go_wp2
      go_end0
      exact ⟨rfl, HE.out _ HA.out, HB.out⟩

/-- What subtract leaves of a row. -/
def subF (p k : Int) (f g : Nat → Int) (j : Nat) : Int := if k = 0 then f j else (f j + (p - k) * g j) % p
def subTo (p k : Int) (f g : Nat → Int) (i j : Nat) : Int := if j < i then (f j + (p - k) * g j) % p else f j
theorem subTo_step (p k : Int) (f g : Nat → Int) (i : Nat) : (fun j => if j = i then (f i + (p - k) * g i) % p else subTo p k f g i j) = subTo p k f g (i + 1) := by
  funext j
  unfold subTo
  by_cases e : j = i
  · subst e; rw [if_pos rfl, if_pos (by omega)]
  · rw [if_neg e]
    by_cases h : j < i
    · rw [if_pos h, if_pos (by omega)]
    · rw [if_neg h, if_neg (by omega)]
theorem subF_in {p k : Int} {f g : Nat → Int} {n : Nat} (hp : 0 < p) (hf : InP p n f) : InP p n (subF p k f g) := fun j hj => by
  unfold subF
  split
  · exact hf j hj
  · exact ⟨Int.emod_nonneg _ (by omega), Int.emod_lt_of_pos _ hp⟩
set_option maxRecDepth 100000 in
set_option maxHeartbeats 1000000 in
theorem subtract_any (p k : Int) (g n c : Nat) (f h : Nat → Int) (u : Value) (S : Nat → Prop) (w : World) (hn : n ≤ 1000) (hp0 : 2 ≤ p) (hp1 : p ≤ 10000) (hk : 0 ≤ k ∧ k < p) (hr : RowI w g n f) (hf : InP p n f) (hu : Vec w S u n h) (hh : InP p n h) (hS : ¬ S g) :
    Calls Tryz.prog 46 #[.int .i64 p, .slice (some ⟨g, 0, none⟩) n c, .int .i64 k, u] w (RowPost g n (subF p k f h) w) := by
  obtain ⟨A, c2, rfl, hc2, hu⟩ := hu
  by_cases hk0 : k = 0
  · subst hk0
    have HE := Lib.hid (show RowI w g n (subF p 0 f h) from hr.congr fun j _ => by simp [subF])
    clear hr hu hf hh
    go_enter Tryz.func46, Tryz.ntmps46
    go_wp2
    go_end0
    exact ⟨rfl, HE.out, Turn.refl _ _⟩
  · have hk1 : (k == 0) = false := by simpa using hk0
    have HE := Lib.hid (show ∀ wr, RowI wr g n (subTo p k f h n) → RowI wr g n (subF p k f h) from fun wr hh => hh.congr fun j hj => by simp [subTo, subF, hj, hk0])
    have H1 := Lib.hid (show RowI w g n (subTo p k f h 0) from hr.congr fun j _ => by simp [subTo])
    have HF := Lib.hid hf
    have HH := Lib.hid hh
    have HU := Lib.hid hu
    have HS' := Lib.hid hS
    have hp2 : (p != 0) = true := by simp; omega
    have hwk : IntKind.i64.wrap (p - k) = p - k := IntWalk.i64_in _ ⟨by omega, by omega⟩
    clear hr hu hf hh hS
    go_enter Tryz.func46, Tryz.ntmps46
    go_wp2
    go_loopw [14] (fun i wr => ∃ j : Nat, i = .int .i64 j ∧ j ≤ n ∧ Hid (RowI wr g n (subTo p k f h j)) ∧ Hid (Turn (· = g) w wr)) (fun i _ => n - (intOf i).toNat)
    case atStart => exact ⟨0, rfl, Nat.zero_le _, H1, Lib.hid (Turn.refl _ _)⟩
    case round =>
      obtain ⟨j, rfl, hj, HA, HB⟩ := hrel
      by_cases hlt : j < n
      · have hx : wr.cell? ⟨g, j, none⟩ = some (.int .i64 (f j)) := by have := HA.out.cell hlt; rwa [show subTo p k f h j j = f j by simp [subTo]] at this
        obtain ⟨b2, o2, rfl, hb2, hcu⟩ := HU.out (by omega)
        have hy : wr.cell? ⟨b2, o2 + j, none⟩ = some (.int .i64 (h j)) := HB.out.cell (hcu j hlt) (fun e => HS'.out (by rw [← e]; exact hb2))
        have hfz := HA.out.frozen j
        have hin := HF.out j hlt
        have hin2 := HH.out j hlt
        have hm := mul_in (a := p - k) (b := h j) (p := p) (q := p) ⟨by omega, by omega⟩ ⟨hin2.1, by omega⟩ hp1 hp1
        have HS := Lib.hid (HA.out.set j ((f j + (p - k) * h j) % p))
        rw [subTo_step] at HS
        generalize f j = x at hx hin HS
        generalize h j = y at hy hin2 hm HS
        generalize hpk : p - k = pk at hwk hm HS
        obtain ⟨m, hmm⟩ : ∃ m, pk * y = m := ⟨_, rfl⟩
        have hw : IntKind.i64.wrap (pk * y) = m := by rw [hmm]; exact IntWalk.i64_in _ ⟨by omega, by omega⟩
        rw [hmm] at hm HS
        have hw2 : IntKind.i64.wrap (x + m) = x + m := IntWalk.i64_in _ ⟨by omega, by omega⟩
        have hr : (x + m).tmod p = (x + m) % p := Int.tmod_eq_emod_of_nonneg (by omega)
        have hr1 : 0 ≤ (x + m) % p := Int.emod_nonneg _ (by omega)
        have hr2 : (x + m) % p < p := Int.emod_lt_of_pos _ (by omega)
        have hw3 : IntKind.i64.wrap ((x + m) % p) = (x + m) % p := IntWalk.i64_in _ ⟨by omega, by omega⟩
        have HTT := Lib.hid (HB.out.setCell ⟨g, j, none⟩ rfl (.int .i64 ((x + m) % p)))
        clear hmm hcu
        go_wp2
        go_roundw
        case rel => exact ⟨j + 1, by go_num, by omega, HS, HTT⟩
        case measure => simp [intOf]; omega
      · obtain rfl : j = n := by omega
        go_wp2
        go_end0
        exact ⟨rfl, HE.out _ HA.out, HB.out⟩
end Go.Proofs.YtinoomcboinokaaGreat
