/- MAbs, MVSp, MOrdV, MPermV, joined. -/
import Derived.Test.YtokiejichnnmnaaMGLin
import Derived.Test.YtokiejichnnmnaaMVec
import Derived.Test.YtokiejichnnmnaaMOrd
import Derived.Test.YtokiejichnnmnaaMPerm
import Derived.Test.YtokiejichnnmnaaMKit

/- MATHEMATICS: a bound of the order of a linear map over a finite space, step by step as Order goes. -/
namespace Go.Proofs.Ytokiejichnnmnaa

def itn {α : Type} (T : α → α) : Nat → α → α
  | 0, v => v
  | k + 1, v => T (itn T k v)
theorem itn_add {α : Type} (T : α → α) (a : Nat) (v : α) : ∀ b, itn T (a + b) v = itn T b (itn T a v)
  | 0 => rfl
  | b + 1 => by show T (itn T (a + b) v) = T (itn T b (itn T a v)); rw [itn_add T a v b]
theorem itn_mul {α : Type} (T : α → α) (a : Nat) (v : α) : ∀ b, itn T (a * b) v = itn (itn T a) b v
  | 0 => rfl
  | b + 1 => by rw [Nat.mul_succ, itn_add, itn_mul T a v b]; rfl
theorem itn_comm {α : Type} (T : α → α) (a b : Nat) (v : α) : itn T a (itn T b v) = itn T b (itn T a v) := by
  rw [← itn_add, ← itn_add, Nat.add_comm]
theorem itn_fix {α : Type} (T : α → α) (v : α) (h : T v = v) : ∀ k, itn T k v = v
  | 0 => rfl
  | k + 1 => by show T (itn T k v) = v; rw [itn_fix T v h k, h]

structure Sp {α : Type} (add : α → α → α) (zero : α) (p : Nat) (T : α → α) : Prop where
  comm : ∀ a b, add a b = add b a
  assoc : ∀ a b c, add (add a b) c = add a (add b c)
  zer : ∀ a, add zero a = a
  can : ∀ a b c, add a b = add a c → b = c
  lin : ∀ a b, T (add a b) = add (T a) (T b)
  inj : ∀ a b, T a = T b → a = b
  many : ∀ v, itn (add v) p zero = zero
  pos : 0 < p

variable {α : Type} {add : α → α → α} {zero : α} {p : Nat} {T : α → α}
theorem Sp.T0 (S : Sp add zero p T) : T zero = zero := S.can (T zero) _ _ (by rw [← S.lin, S.zer, S.comm, S.zer])
theorem Sp.itn_lin (S : Sp add zero p T) (a b : α) : ∀ k, itn T k (add a b) = add (itn T k a) (itn T k b)
  | 0 => rfl
  | k + 1 => by show T (itn T k (add a b)) = _; rw [S.itn_lin a b k, S.lin]; rfl
theorem Sp.itn_inj (S : Sp add zero p T) (a b : α) : ∀ k, itn T k a = itn T k b → a = b
  | 0, h => h
  | k + 1, h => S.itn_inj a b k (S.inj _ _ h)
theorem Sp.pow (S : Sp add zero p T) (n : Nat) : Sp add zero p (itn T n) where
  comm := S.comm
  assoc := S.assoc
  zer := S.zer
  can := S.can
  lin := fun a b => S.itn_lin a b n
  inj := fun a b => S.itn_inj a b n
  many := S.many
  pos := S.pos
/-- Sums of what stays. -/
theorem Sp.rep_fix (S : Sp add zero p T) (v : α) (h : T v = v) : ∀ k, T (itn (add v) k zero) = itn (add v) k zero
  | 0 => S.T0
  | k + 1 => by show T (add v (itn (add v) k zero)) = add v (itn (add v) k zero); rw [S.lin, h, S.rep_fix v h k]
/-- Two points of an orbit that differ by what stays: p times their distance brings the point back. -/
theorem Sp.back (S : Sp add zero p T) {x v u : α} (hv : T v = v) (hu : T u = u) {k d : Nat} (h : add (itn T k x) v = add (itn T (k + d) x) u) : itn T (d * p) x = x := by
  have h1 : add x v = add (itn T d x) u := S.itn_inj _ _ k (by
    rw [S.itn_lin, S.itn_lin, itn_fix T v hv, itn_fix T u hu, h, Nat.add_comm k d, itn_add])
  obtain ⟨q, hq⟩ : ∃ q, p = q + 1 := ⟨p - 1, by have := S.pos; omega⟩
  have hu0 : add u (itn (add u) q zero) = zero := by
    have := S.many u
    rw [hq] at this
    exact this
  have hw : itn T d x = add x (add v (itn (add u) q zero)) := by
    rw [← S.assoc, h1, S.assoc, hu0, S.comm, S.zer]
  have hwf : T (add v (itn (add u) q zero)) = add v (itn (add u) q zero) := by rw [S.lin, hv, S.rep_fix u hu]
  generalize add v (itn (add u) q zero) = w at hw hwf
  have key : ∀ t, itn T (d * t) x = add x (itn (add w) t zero) := by
    intro t
    induction t with
    | zero => show x = add x zero; rw [S.comm, S.zer]
    | succ t ih =>
      rw [Nat.mul_succ, itn_add, ih, S.itn_lin, hw, itn_fix T _ (S.rep_fix w hwf t), S.assoc]
      rfl
  rw [key, S.many, S.comm, S.zer]
/-- r is the least positive number that brings x back. -/
def Least (B : α → α) (x : α) (r : Nat) : Prop := 0 < r ∧ itn B r x = x ∧ ∀ k, 0 < k → k < r → itn B k x ≠ x
theorem Least.dvd {B : α → α} {x : α} {r : Nat} (h : Least B x r) (k : Nat) (hk : itn B k x = x) : r ∣ k := by
  have e : itn B (k % r) x = x := by
    have h2 : itn B (r * (k / r)) x = x := by rw [itn_mul]; exact itn_fix _ _ h.2.1 _
    have h3 := hk
    rw [← Nat.div_add_mod k r, itn_add, h2] at h3
    exact h3
  rcases Nat.eq_zero_or_pos (k % r) with h0 | h0
  · exact Nat.dvd_of_mod_eq_zero h0
  · exact absurd e (h.2.2 _ h0 (Nat.mod_lt _ h.1))
/-- A list of what n rounds leave where it is. -/
structure Stay (T : α → α) (n c : Nat) (L : List α) : Prop where
  nodup : L.Nodup
  fix : ∀ v ∈ L, itn T n v = v
  le : n ≤ c * L.length
theorem Sp.stay0 (S : Sp add zero p T) : Stay T 1 1 [zero] := ⟨by simp, fun v hv => by simp at hv; subst hv; exact S.T0, by simp⟩
theorem Sp.stay (S : Sp add zero p T) {n c r : Nat} {L : List α} (h : Stay T n c L) {x : α} (hr : Least (itn T n) x r) : ∃ L', Stay T (n * r) (c * p) L' := by
  have Sn := S.pow n
  have hg0 : 0 < Nat.gcd r p := Nat.gcd_pos_of_pos_left _ hr.1
  obtain ⟨q, hq⟩ : Nat.gcd r p ∣ r := Nat.gcd_dvd_left r p
  have hgp : Nat.gcd r p ≤ p := Nat.le_of_dvd S.pos (Nat.gcd_dvd_right r p)
  have hqd : ∀ d, r ∣ d * p → q ∣ d := by
    intro d hd
    have h1 : r ∣ d * Nat.gcd r p := by
      rw [← Nat.gcd_mul_left]
      exact Nat.dvd_gcd ⟨d, Nat.mul_comm _ _⟩ hd
    have h2 : Nat.gcd r p * q ∣ Nat.gcd r p * d := by rw [← hq, Nat.mul_comm (Nat.gcd r p) d]; exact h1
    exact Nat.dvd_of_mul_dvd_mul_left hg0 h2
  refine ⟨(List.range q).flatMap (fun k => L.map (add (itn (itn T n) k x))), ?_, ?_, ?_⟩
  · unfold List.Nodup
    rw [List.pairwise_flatMap]
    constructor
    · intro k hk
      rw [List.pairwise_map]
      exact h.nodup.imp fun {a b} hab e => hab (S.can _ _ _ e)
    · refine (List.pairwise_lt_range).imp_of_mem ?_
      intro k l hk hl hkl a ha b hb e
      simp only [List.mem_map] at ha hb
      obtain ⟨v, hv, rfl⟩ := ha
      obtain ⟨u, hu, rfl⟩ := hb
      obtain ⟨d, rfl⟩ : ∃ d, l = k + d := ⟨l - k, by omega⟩
      have hd := hqd d (hr.dvd _ (Sn.back (h.fix v hv) (h.fix u hu) e))
      have hlq : k + d < q := List.mem_range.1 hl
      have := Nat.le_of_dvd (by omega) hd
      omega
  · intro y hy
    simp only [List.mem_flatMap, List.mem_map] at hy
    obtain ⟨k, hk, v, hv, rfl⟩ := hy
    rw [itn_mul, Sn.itn_lin, itn_fix _ v (h.fix v hv), itn_comm, hr.2.1]
  · have hl2 : ∀ l : List Nat, (l.flatMap (fun k => L.map (add (itn (itn T n) k x)))).length = l.length * L.length := by
      intro l
      induction l with
      | nil => simp
      | cons a l ih => rw [List.flatMap_cons, List.length_append, ih, List.length_map, List.length_cons, Nat.succ_mul, Nat.add_comm]
    have hlen : ((List.range q).flatMap (fun k => L.map (add (itn (itn T n) k x)))).length = q * L.length := by
      rw [hl2, List.length_range]
    rw [hlen]
    have h1 := h.le
    calc n * r ≤ (c * L.length) * r := Nat.mul_le_mul_right _ h1
      _ = (c * L.length) * (Nat.gcd r p * q) := by rw [← hq]
      _ ≤ (c * L.length) * (p * q) := Nat.mul_le_mul_left _ (Nat.mul_le_mul_right _ hgp)
      _ = c * p * (q * L.length) := by simp only [Nat.mul_assoc, Nat.mul_left_comm, Nat.mul_comm]
end Go.Proofs.Ytokiejichnnmnaa

/- MATHEMATICS: row vectors over a prime as a finite space; matrices act on them; the bound of an order. -/
namespace Go.Proofs.Ytokiejichnnmnaa

def VT (p : Int) (m : Nat) : Type := { v : Nat → Int // InP p m v ∧ ∀ j, ¬ j < m → v j = 0 }
section
variable {p : Int} {m : Nat}
theorem VT.ext {a b : VT p m} (h : ∀ j, j < m → a.1 j = b.1 j) : a = b := by
  apply Subtype.ext
  funext j
  by_cases e : j < m
  · exact h j e
  · rw [a.2.2 j e, b.2.2 j e]
def vOf (hp : 0 < p) (m : Nat) (f : Nat → Int) : VT p m := ⟨fun j => if j < m then f j % p else 0, fun j hj => by show 0 ≤ (if j < m then f j % p else 0) ∧ (if j < m then f j % p else 0) < p; rw [if_pos hj]; exact ⟨Int.emod_nonneg _ (by omega), Int.emod_lt_of_pos _ hp⟩, fun j hj => if_neg hj⟩
theorem vOf_at (hp : 0 < p) {f : Nat → Int} {j : Nat} (hj : j < m) : (vOf hp m f).1 j = f j % p := if_pos hj
def vAdd (hp : 0 < p) (a b : VT p m) : VT p m := vOf hp m fun j => a.1 j + b.1 j
def vZero (hp : 0 < p) (m : Nat) : VT p m := vOf hp m fun _ => 0
def vT (hp : 0 < p) (F : Nat → Nat → Int) (a : VT p m) : VT p m := vOf hp m fun j => dotTo a.1 F j m
theorem VT.red (_hp : 0 < p) (a : VT p m) {j : Nat} (hj : j < m) : a.1 j % p = a.1 j := Int.emod_eq_of_lt (a.2.1 j hj).1 (a.2.1 j hj).2
theorem vT_mul (hp : 0 < p) (F G : Nat → Nat → Int) (a : VT p m) : vT hp G (vT hp F a) = vT hp (mulF p m F G) a := VT.ext fun j hj => by
  show (vOf hp m _).1 j = (vOf hp m _).1 j
  rw [vOf_at hp hj, vOf_at hp hj]
  have h1 : Cg p (dotTo (vT hp F a).1 G j m) (dotTo (fun k => dotTo a.1 F k m) G j m) := dot_cg m (fun k hk => by
    show Cg p ((vOf hp m _).1 k) _
    rw [vOf_at hp hk]; exact Cg.mod p _) (fun k _ => Cg.refl p _)
  have h2 : Cg p (dotTo a.1 (mulF p m F G) j m) (dotTo a.1 (fun k j => dotTo (F k) G j m) j m) := dot_cg m (fun k _ => Cg.refl p _) (fun k _ => Cg.mod p _)
  rw [dot_assoc] at h1
  exact h1.trans h2.symm
theorem vT_one (hp : 0 < p) (a : VT p m) : vT hp oneF a = a := VT.ext fun j hj => by
  show (vOf hp m _).1 j = _
  rw [vOf_at hp hj, dot_oneR, if_pos hj, a.red hp hj]
theorem vT_eqv (hp : 0 < p) {F G : Nat → Nat → Int} (h : Eqv m F G) (a : VT p m) : vT hp F a = vT hp G a := VT.ext fun j hj => by
  show (vOf hp m _).1 j = (vOf hp m _).1 j
  rw [vOf_at hp hj, vOf_at hp hj, dot_congr2 m (fun k _ => rfl) (fun k hk => h k hk j hj)]
theorem vRep (hp : 0 < p) (a : VT p m) : ∀ k : Nat, itn (vAdd hp a) k (vZero hp m) = vOf hp m fun j => k * a.1 j
  | 0 => VT.ext fun j hj => by show (vOf hp m _).1 j = _; rw [vOf_at hp hj, vOf_at hp hj]; simp
  | k + 1 => VT.ext fun j hj => by
    show (vOf hp m fun j => a.1 j + (itn (vAdd hp a) k (vZero hp m)).1 j).1 j = _
    rw [vOf_at hp hj, vOf_at hp hj, vRep hp a k, vOf_at hp hj, Int.add_emod_emod]
    congr 1
    rw [Int.natCast_succ, Int.add_mul]
    omega
end
/-- An invertible matrix acts on the space. -/
theorem vSp {P m : Nat} (hp : 1 < (P : Int)) (hI : Invs (P : Int)) {F : Nat → Nat → Int} (hF : InG (P : Int) m m F) (hd : detV (P : Int) m F ≠ 0) :
    Sp (vAdd (p := (P : Int)) (m := m) (by omega)) (vZero (by omega) m) P (vT (by omega) F) where
  comm a b := VT.ext fun j hj => by show (vOf _ m _).1 j = (vOf _ m _).1 j; rw [vOf_at _ hj, vOf_at _ hj, Int.add_comm]
  assoc a b c := VT.ext fun j hj => by
    show (vOf _ m fun j => (vOf _ m _).1 j + _).1 j = (vOf _ m fun j => _ + (vOf _ m _).1 j).1 j
    rw [vOf_at _ hj, vOf_at _ hj, vOf_at _ hj, vOf_at _ hj, Int.emod_add_emod, Int.add_emod_emod, Int.add_assoc]
  zer a := VT.ext fun j hj => by
    show (vOf _ m fun j => (vOf _ m _).1 j + _).1 j = _
    rw [vOf_at _ hj, vOf_at _ hj, Int.emod_add_emod, Int.zero_add, a.red (by omega) hj]
  can a b c h := VT.ext fun j hj => by
    have e : (vAdd (p := (P : Int)) (by omega) a b).1 j = (vAdd (p := (P : Int)) (by omega) a c).1 j := by rw [h]
    have e' : Cg (P : Int) (a.1 j + b.1 j) (a.1 j + c.1 j) := by
      have h1 : (vAdd (p := (P : Int)) (by omega) a b).1 j = (a.1 j + b.1 j) % (P : Int) := vOf_at _ hj
      have h2 : (vAdd (p := (P : Int)) (by omega) a c).1 j = (a.1 j + c.1 j) % (P : Int) := vOf_at _ hj
      rw [h1, h2] at e; exact e
    have e2 := (Cg.refl (P : Int) (- a.1 j)).add e'
    rw [Int.neg_add_cancel_left, Int.neg_add_cancel_left] at e2
    exact e2.eq (b.2.1 j hj) (c.2.1 j hj)
  lin a b := VT.ext fun j hj => by
    show (vOf _ m fun j => dotTo (vOf _ m _).1 F j m).1 j = (vOf _ m fun j => (vOf _ m _).1 j + (vOf _ m _).1 j).1 j
    rw [vOf_at _ hj, vOf_at _ hj, vOf_at _ hj, vOf_at _ hj, Int.emod_add_emod, Int.add_emod_emod, ← dot_add]
    exact dot_cg m (fun k hk => by rw [vOf_at _ hk]; exact Cg.mod _ _) (fun k _ => Cg.refl _ _)
  inj a b h := by
    have hr := invF_right hp hI hF hd
    have key : ∀ c : VT (P : Int) m, vT (by omega) (invF (P : Int) m F) (vT (by omega) F c) = c := fun c => by
      rw [vT_mul, vT_eqv _ hr, vT_one]
    rw [← key a, ← key b, h]
  many v := by
    rw [vRep]
    exact VT.ext fun j hj => by
      show _ = (vOf _ m _).1 j
      rw [vOf_at _ hj, vOf_at _ hj, Int.mul_emod_right, Int.zero_emod]
  pos := by omega
/-- The number of a vector tells it. -/
def vNum (P : Nat) {m : Nat} (v : VT (P : Int) m) : Nat := numN P (fun j => (v.1 j).toNat) m
theorem numN_inj {P : Nat} {f g : Nat → Nat} : ∀ n, (∀ i, i < n → f i < P ∧ g i < P) → numN P f n = numN P g n → ∀ i, i < n → f i = g i
  | 0, _, _, _, hi => absurd hi (Nat.not_lt_zero _)
  | n + 1, h, e, i, hi => by
    rw [numN, numN] at e
    have hn := h n (by omega)
    have h1 : f n = g n := by
      have e1 := congrArg (· % P) e
      simp only [Nat.mul_add_mod_self_right] at e1
      rwa [Nat.mod_eq_of_lt hn.1, Nat.mod_eq_of_lt hn.2] at e1
    by_cases hin : i = n
    · rw [hin]; exact h1
    · rw [h1] at e
      have e2 : numN P f n = numN P g n := Nat.eq_of_mul_eq_mul_right (by omega : 0 < P) (Nat.add_right_cancel e)
      exact numN_inj n (fun k hk => h k (by omega)) e2 i (by omega)
theorem VT.lt {P m : Nat} (v : VT (P : Int) m) (j : Nat) (hj : j < m) : (v.1 j).toNat < P := by have := v.2.1 j hj; omega
theorem vNum_lt {P m : Nat} (v : VT (P : Int) m) : vNum P v < P ^ m := numN_lt (fun i hi => v.lt i hi) m (Nat.le_refl m)
theorem vNum_inj {P m : Nat} {v u : VT (P : Int) m} (h : vNum P v = vNum P u) : v = u := VT.ext fun j hj => by
  have := numN_inj m (fun i hi => ⟨v.lt i hi, u.lt i hi⟩) h j hj
  have h1 := v.2.1 j hj
  have h2 := u.2.1 j hj
  omega
theorem nodup_le : ∀ (N : Nat) (L : List Nat), L.Nodup → (∀ x ∈ L, x < N) → L.length ≤ N
  | 0, L, _, h => by
    cases L with
    | nil => simp
    | cons a l => exact absurd (h a (by simp)) (Nat.not_lt_zero _)
  | N + 1, L, hn, h => by
    have h1 := nodup_le N (L.erase N) (hn.erase N) (fun x hx => by
      have h2 := hn.mem_erase_iff.1 hx
      have := h x h2.2
      omega)
    have h2 := List.length_erase (a := N) (l := L)
    split at h2 <;> omega
theorem VT.few {P m : Nat} (L : List (VT (P : Int) m)) (h : L.Nodup) : L.length ≤ P ^ m := by
  have := nodup_le (P ^ m) (L.map (vNum P)) (by
    unfold List.Nodup
    rw [List.pairwise_map]
    exact h.imp fun {a b} hab e => hab (vNum_inj e)) (fun x hx => by
      obtain ⟨v, _, rfl⟩ := List.mem_map.1 hx
      exact vNum_lt v)
  rwa [List.length_map] at this
/-- There is a least number of rounds that brings a vector back. -/
theorem least_ex {P m : Nat} {add : VT (P : Int) m → VT (P : Int) m → VT (P : Int) m} {z : VT (P : Int) m} {c : Nat} {B : VT (P : Int) m → VT (P : Int) m} (S : Sp add z c B) (x : VT (P : Int) m) : ∃ r, Least B x r := by
  have hex : ∃ k, 0 < k ∧ itn B k x = x := by
    apply Classical.byContradiction
    intro hno
    have hnd : ((List.range (P ^ m + 1)).map (fun k => itn B k x)).Nodup := by
      unfold List.Nodup
      rw [List.pairwise_map]
      exact List.pairwise_lt_range.imp fun {a b} hab (e : itn B a x = itn B b x) => hno ⟨b - a, by omega, (S.itn_inj _ _ a (by
        rw [← itn_add, show b - a + a = b from by omega, e])) ⟩
    have := VT.few _ hnd
    rw [List.length_map, List.length_range] at this
    omega
  obtain ⟨k, hk0, hk⟩ := hex
  have key : ∀ n k, k ≤ n → 0 < k → itn B k x = x → ∃ r, Least B x r := by
    intro n
    induction n with
    | zero => intro k h1 h2; omega
    | succ n ih =>
      intro k h1 h2 h3
      by_cases h : ∃ l, 0 < l ∧ l < k ∧ itn B l x = x
      · obtain ⟨l, a, b, c⟩ := h
        exact ih l (by omega) a c
      · exact ⟨k, h2, h3, fun l a b c => h ⟨l, a, b, c⟩⟩
  exact key k k (Nat.le_refl _) hk0 hk
end Go.Proofs.Ytokiejichnnmnaa

/- MATHEMATICS: what Order gives of an invertible matrix over few vectors: the least power that is 1. -/
namespace Go.Proofs.Ytokiejichnnmnaa

def vE (P m i : Nat) (hp : 1 < (P : Int)) : VT (P : Int) m := vOf (by omega) m (oneF i)
theorem vE_at {P m i j : Nat} (hp : 1 < (P : Int)) (hj : j < m) : (vE P m i hp).1 j = oneF i j := by
  show (vOf _ m (oneF i)).1 j = _
  rw [vOf_at _ hj]
  unfold oneF
  split
  · exact Int.emod_eq_of_lt (by omega) (by omega)
  · exact Int.emod_eq_of_lt (by omega) (by omega)
theorem itV_itn {P m : Nat} (hp : 0 < (P : Int)) (g : Nat → Nat → Int) (f0 : Nat → Int) (v : VT (P : Int) m) (h : ∀ j, j < m → f0 j = v.1 j) : ∀ k j, j < m → itV (P : Int) m g f0 k j = (itn (vT hp g) k v).1 j
  | 0, j, hj => h j hj
  | k + 1, j, hj => by
    show dotTo (itV (P : Int) m g f0 k) g j m % (P : Int) = (vOf hp m _).1 j
    rw [vOf_at hp hj, dot_congr2 m (fun l hl => itV_itn hp g f0 v h k l hl) (fun _ _ => rfl)]
theorem perGo_least {P m : Nat} (hp : 0 < (P : Int)) (g : Nat → Nat → Int) (f0 : Nat → Int) (v : VT (P : Int) m) (h : ∀ j, j < m → f0 j = v.1 j) {r : Nat} (hr : Least (vT hp g) v r) :
    ∀ fuel k, 1 ≤ k → k ≤ r → r < k + fuel → perGo (P : Int) m g f0 fuel k = r
  | 0, k, _, h1, h2 => by omega
  | fuel + 1, k, h0, h1, h2 => by
    have key : eqB m (itV (P : Int) m g f0 k) f0 = true ↔ itn (vT hp g) k v = v := by
      unfold eqB
      rw [decide_eq_true_eq]
      exact ⟨fun e => VT.ext fun j hj => by rw [← itV_itn hp g f0 v h k j hj, e j hj, h j hj], fun e j hj => by rw [itV_itn hp g f0 v h k j hj, e, h j hj]⟩
    unfold perGo
    by_cases hk : k = r
    · rw [if_pos (key.2 (hk ▸ hr.2.1)), hk]
    · rw [if_neg (fun e => hr.2.2 k (by omega) (by omega) (key.1 e))]
      exact perGo_least hp g f0 v h hr fuel (k + 1) (by omega) (by omega) (by omega)
theorem npow_vT {P m : Nat} (hp : 1 < (P : Int)) (hI : Invs (P : Int)) (b : GL (P : Int) m) (v : VT (P : Int) m) : ∀ k, vT (by omega) (npow (glMul hp hI) (glOne m hp hI) k b).1 v = itn (vT (by omega) b.1) k v
  | 0 => by
    show vT _ (glOne m hp hI).1 v = v
    rw [vT_eqv _ (glOne_eqv hp hI), vT_one]
  | k + 1 => by
    show vT _ (glMul hp hI (npow (glMul hp hI) (glOne m hp hI) k b) b).1 v = vT _ b.1 (itn (vT _ b.1) k v)
    rw [vT_eqv _ (glMul_eqv hp hI _ _), ← vT_mul, npow_vT hp hI b v k]
/-- A matrix that acts as n rounds do. -/
structure As (P m : Nat) (hp : 1 < (P : Int)) (T : VT (P : Int) m → VT (P : Int) m) (n : Nat) (g : Nat → Nat → Int) : Prop where
  inG : InG (P : Int) m m g
  det : detV (P : Int) m g ≠ 0
  acts : ∀ v, vT (by omega) g v = itn T n v
theorem As.pow {P m : Nat} {hp : 1 < (P : Int)} (hI : Invs (P : Int)) {T : VT (P : Int) m → VT (P : Int) m} {n : Nat} {g : Nat → Nat → Int} (h : As P m hp T n g) (r : Nat) (hr : r < 2 ^ 64) : As P m hp T (n * r) (powF (P : Int) m r g) := by
  have e := powF_eqv (n := r) hp hI (glOf hp hI g h.inG h.det) (glOf_eqv hp hI g h.inG h.det).symm hr
  have hin : InG (P : Int) m m (powF (P : Int) m r g) := powF_in (by omega) r
  refine ⟨hin, ?_, fun v => ?_⟩
  · rw [detV_congr hp hI hin (npow (glMul hp hI) (glOne m hp hI) r (glOf hp hI g h.inG h.det)).2.1 e]
    exact (npow (glMul hp hI) (glOne m hp hI) r (glOf hp hI g h.inG h.det)).2.2.1
  · rw [vT_eqv _ e, npow_vT, itn_mul]
    have e2 : vT (by omega) (glOf hp hI g h.inG h.det).1 = itn T n := funext fun u => by rw [vT_eqv _ (glOf_eqv hp hI g h.inG h.det), h.acts]
    rw [e2]
theorem As.fix {P m : Nat} {hp : 1 < (P : Int)} {T : VT (P : Int) m → VT (P : Int) m} {n : Nat} {g : Nat → Nat → Int} (h : As P m hp T n g) (he : ∀ k, k < m → itn T n (vE P m k hp) = vE P m k hp) (v : VT (P : Int) m) : itn T n v = v := by
  have e : Eqv m g oneF := fun k hk j hj => by
    have h1 : (vT (by omega) g (vE P m k hp)).1 j = oneF k j := by rw [h.acts, he k hk, vE_at hp hj]
    have h2 : (vT (by omega) g (vE P m k hp)).1 j = dotTo (vE P m k hp).1 g j m % (P : Int) := vOf_at _ hj
    rw [h2, dot_congr2 (y := oneF k) (h := g) m (fun l hl => vE_at hp hl) (fun _ _ => rfl), dot_oneL, if_pos hk, Int.emod_eq_of_lt (h.inG k hk j hj).1 (h.inG k hk j hj).2] at h1
    exact h1
  rw [← h.acts, vT_eqv _ e, vT_one]
theorem ordGo_ok {P m : Nat} (hp : 1 < (P : Int)) (hI : Invs (P : Int)) {add : VT (P : Int) m → VT (P : Int) m → VT (P : Int) m} {z : VT (P : Int) m} {T : VT (P : Int) m → VT (P : Int) m} (S : Sp add z P T) (hsz : P ^ m * P ^ m ≤ 10000) :
    ∀ (fuel i n : Nat) (g : Nat → Nat → Int), i + fuel = m → 1 ≤ n → As P m hp T n g → (∃ L, Stay T n (P ^ i) L) → (∀ k, k < i → itn T n (vE P m k hp) = vE P m k hp) → (∀ j, (∀ v, itn T j v = v) → n ∣ j) →
      ∃ n', ordGo (P : Int) m fuel i n g = (n', 0) ∧ 1 ≤ n' ∧ n' ≤ 10000 ∧ (∀ v, itn T n' v = v) ∧ ∀ j, (∀ v, itn T j v = v) → n' ∣ j
  | 0, i, n, g, hi, h1, hA, ⟨L, hL⟩, he, hd => by
    refine ⟨n, rfl, h1, ?_, hA.fix (fun k hk => he k (by omega)), hd⟩
    have := hL.le
    have h2 := Nat.mul_le_mul_left (P ^ i) (VT.few L hL.nodup)
    have : i = m := by omega
    subst this
    omega
  | fuel + 1, i, n, g, hi, h1, hA, ⟨L, hL⟩, he, hd => by
    have hB : vT (by omega) g = itn T n := funext hA.acts
    obtain ⟨r, hr⟩ := least_ex (S.pow n) (vE P m i hp)
    obtain ⟨L', hL'⟩ := S.stay hL hr
    have hnr : n * r ≤ 10000 := by
      have h2 := hL'.le
      have h3 := Nat.mul_le_mul_left (P ^ i * P) (VT.few L' hL'.nodup)
      have h4 : P ^ i * P ≤ P ^ m := by rw [← Nat.pow_succ]; exact Nat.pow_le_pow_right (by omega) (by omega)
      have h5 := Nat.mul_le_mul_right (P ^ m) h4
      omega
    have hrN : r ≤ 10000 / n := (Nat.le_div_iff_mul_le h1).2 (by rw [Nat.mul_comm]; exact hnr)
    have hr1 : r ≤ 10000 := Nat.le_trans hrN (Nat.div_le_self _ _)
    have hper : perGo (P : Int) m g (oneF i) (10000 / n) 1 = r := perGo_least (by omega) g (oneF i) (vE P m i hp) (fun j hj => (vE_at hp hj).symm) (by rw [hB]; exact hr) _ _ (Nat.le_refl 1) hr.1 (by omega)
    unfold ordGo
    rw [hper, if_neg (by have := hr.1; omega)]
    refine ordGo_ok hp hI S hsz fuel (i + 1) (n * r) (powF (P : Int) m r g) (by omega) (Nat.mul_pos h1 hr.1) (hA.pow hI r (by omega)) ⟨L', by rw [Nat.pow_succ]; exact hL'⟩ (fun k hk => ?_) (fun j hj => ?_)
    · by_cases hki : k = i
      · subst hki; rw [itn_mul]; exact hr.2.1
      · rw [itn_mul]; exact itn_fix _ _ (he k (by omega)) r
    · obtain ⟨t, ht⟩ := hd j hj
      have : r ∣ t := hr.dvd t (by rw [← itn_mul, ← ht]; exact hj _)
      obtain ⟨s, hs⟩ := this
      exact ⟨s, by rw [ht, hs, Nat.mul_assoc]⟩
theorem ordV_ok {P m : Nat} (hp : 1 < (P : Int)) (hI : Invs (P : Int)) {f : Nat → Nat → Int} (hf : InG (P : Int) m m f) (hd : detV (P : Int) m f ≠ 0) (hsz : P ^ m * P ^ m ≤ 10000) :
    ∃ n, ordV (P : Int) m f 0 = (n, 0) ∧ 1 ≤ n ∧ n ≤ 10000 ∧ (∀ v : VT (P : Int) m, itn (vT (by omega) f) n v = v) ∧ ∀ j, (∀ v : VT (P : Int) m, itn (vT (by omega) f) j v = v) → n ∣ j := by
  have S := vSp hp hI hf hd
  obtain ⟨n, h1, h2⟩ := ordGo_ok hp hI S hsz m 0 1 f (by omega) (Nat.le_refl 1) ⟨hf, hd, fun v => rfl⟩ ⟨_, S.stay0⟩ (fun k hk => by omega) (fun j _ => Nat.one_dvd j)
  exact ⟨n, by unfold ordV; rw [if_neg (by decide), if_neg hd]; exact h1, h2⟩
end Go.Proofs.Ytokiejichnnmnaa

/- MATHEMATICS: the permutation of the vectors that belongs to a matrix. -/
namespace Go.Proofs.Ytokiejichnnmnaa

theorem numN_congr {P : Nat} {f g : Nat → Nat} : ∀ n, (∀ i, i < n → f i = g i) → numN P f n = numN P g n
  | 0, _ => rfl
  | n + 1, h => by rw [numN, numN, numN_congr n (fun i hi => h i (by omega)), h n (by omega)]
theorem numN_dig {P m k : Nat} (hk : k < P ^ m) : numN P (digN P m k) m = k := by
  have key : ∀ i, i ≤ m → numN P (digN P m k) i = k / P ^ (m - i) := by
    intro i
    induction i with
    | zero => intro _; rw [numN, Nat.sub_zero, Nat.div_eq_of_lt hk]
    | succ i ih =>
      intro hi
      have e : m - i = (m - 1 - i) + 1 := by omega
      have e2 : m - (i + 1) = m - 1 - i := by omega
      rw [numN, ih (by omega), e, e2, Nat.pow_succ, ← Nat.div_div_eq_div_mul]
      show _ * P + k / P ^ (m - 1 - i) % P = _
      rw [Nat.mul_comm]
      exact Nat.div_add_mod _ P
  rw [key m (Nat.le_refl m), Nat.sub_self, Nat.pow_zero, Nat.div_one]
/-- The vector of a number. -/
def vD (P m : Nat) (hp : 0 < (P : Int)) (k : Nat) : VT (P : Int) m := vOf hp m (digF P m k)
theorem vD_at {P m k j : Nat} (hp : 0 < (P : Int)) (hj : j < m) : (vD P m hp k).1 j = digF P m k j := by
  show (vOf hp m _).1 j = _
  rw [vOf_at hp hj]
  have := digF_in (p := P) (n := m) (k := k) (by omega) j hj
  exact Int.emod_eq_of_lt this.1 this.2
theorem vNum_D {P m k : Nat} (hp : 0 < (P : Int)) (hk : k < P ^ m) : vNum P (vD P m hp k) = k := by
  unfold vNum
  rw [numN_congr m (g := digN P m k) (fun i hi => by rw [vD_at hp hi]; rfl), numN_dig hk]
theorem vD_num {P m : Nat} (hp : 0 < (P : Int)) (v : VT (P : Int) m) : vD P m hp (vNum P v) = v := vNum_inj (vNum_D hp (vNum_lt v))
theorem permV_eq {P m : Nat} (hp : 0 < (P : Int)) (f : Nat → Nat → Int) (k : Nat) : permV P m f k = vNum P (vT hp f (vD P m hp k)) := by
  unfold permV vNum
  refine numN_congr m fun j hj => ?_
  have h1 : (vT hp f (vD P m hp k)).1 j = dotTo (vD P m hp k).1 f j m % (P : Int) := vOf_at hp hj
  rw [h1, dot_congr2 m (fun l hl => vD_at hp hl) (fun _ _ => rfl)]
theorem permV_lt {P m : Nat} (hp : 0 < (P : Int)) (f : Nat → Nat → Int) (k : Nat) : permV P m f k < P ^ m := by rw [permV_eq hp]; exact vNum_lt _
theorem permV_mul {P m : Nat} (hp : 0 < (P : Int)) (f g : Nat → Nat → Int) (k : Nat) : permV P m g (permV P m f k) = permV P m (mulF (P : Int) m f g) k := by
  rw [permV_eq hp f, permV_eq hp g, permV_eq hp (mulF _ _ _ _), vD_num, vT_mul]
theorem permV_inj {P m : Nat} (hp : 1 < (P : Int)) (hI : Invs (P : Int)) {f : Nat → Nat → Int} (hf : InG (P : Int) m m f) (hd : detV (P : Int) m f ≠ 0) {i j : Nat} (hi : i < P ^ m) (hj : j < P ^ m) (h : permV P m f i = permV P m f j) : i = j := by
  have hp0 : 0 < (P : Int) := by omega
  rw [permV_eq hp0, permV_eq hp0] at h
  have := (vSp hp hI hf hd).inj _ _ (vNum_inj h)
  rw [← vNum_D hp0 hi, ← vNum_D hp0 hj, this]
theorem permV_zero {P m : Nat} (f : Nat → Nat → Int) : permV P m f 0 = 0 := by
  unfold permV
  have hd : ∀ i, digF P m 0 i = 0 := fun i => by unfold digF digN; simp
  have hn : ∀ n, numN P (fun j => (dotTo (digF P m 0) f j m % (P : Int)).toNat) n = 0 := by
    intro n
    induction n with
    | zero => rfl
    | succ n ih =>
      rw [numN, ih]
      have : dotTo (digF P m 0) f n m = 0 := by
        rw [dot_congr2 (y := fun _ => 0) (h := f) m (fun l _ => hd l) (fun _ _ => rfl), dot_zero]
      show 0 * P + (dotTo (digF P m 0) f n m % (P : Int)).toNat = 0
      rw [this]
      simp
  exact hn m
theorem permV_itn {P m : Nat} (hp : 0 < (P : Int)) (f : Nat → Nat → Int) {k : Nat} (hk : k < P ^ m) : ∀ j, itn (permV P m f) j k = vNum P (itn (vT hp f) j (vD P m hp k))
  | 0 => (vNum_D hp hk).symm
  | j + 1 => by
    show permV P m f (itn (permV P m f) j k) = vNum P (vT hp f (itn (vT hp f) j (vD P m hp k)))
    rw [permV_itn hp f hk j, permV_eq hp, vD_num]
/-- The order of the permutation is that of the matrix. -/
theorem permV_ord {P m : Nat} (hp : 1 < (P : Int)) (hI : Invs (P : Int)) {f : Nat → Nat → Int} (hf : InG (P : Int) m m f) (hd : detV (P : Int) m f ≠ 0) (hsz : P ^ m * P ^ m ≤ 10000) :
    ∃ n, ordV (P : Int) m f 0 = (n, 0) ∧ 1 ≤ n ∧ n ≤ 10000 ∧ ∀ j, 1 ≤ j → j ≤ n → eqB (P ^ m) (natF (itn (permV P m f) j)) (natF fun k => k) = decide (j = n) := by
  have hp0 : 0 < (P : Int) := by omega
  obtain ⟨n, h1, h2, h3, h4, h5⟩ := ordV_ok hp hI hf hd hsz
  refine ⟨n, h1, h2, h3, fun j hj1 hj => ?_⟩
  unfold eqB
  rw [decide_eq_decide]
  constructor
  · intro h
    have := h5 j (fun v => by
      have e := h (vNum P v) (vNum_lt v)
      have e2 : itn (permV P m f) j (vNum P v) = vNum P v := Int.ofNat_inj.1 e
      rw [permV_itn hp0 f (vNum_lt v), vD_num] at e2
      exact vNum_inj e2)
    have := Nat.le_of_dvd (by omega) this
    omega
  · rintro rfl k hk
    show ((itn (permV P m f) j k : Nat) : Int) = (k : Nat)
    rw [permV_itn hp0 f hk, h4, vNum_D hp0 hk]
end Go.Proofs.Ytokiejichnnmnaa
