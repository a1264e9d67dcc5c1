/- The whole text; the guard that catches a fault; word.Parse, where no fault is met. -/
import Derived.Test.YtlpepholcehojaaDoorWParse
import Derived.Test.YtlpepholcehojaaDoorWSame
import Derived.Recover
import Derived.Defers
import Derived.BigQuiet
namespace Go.Proofs.YtlpepholcehojaaDoor
open Go Go.RowKit

theorem one_byte {s : ByteArray} {i : Nat} (h0 : i + 1 ≤ s.size) (h : chAt s i ≠ 32) : ((s.extract i (i + 1)).toList == [32]) = false := by
  rw [chAt_in (by omega)] at h
  have hi : i < s.data.toList.length := by
    have := Lib.size_eq s
    omega
  rw [Lib.extract_toList, List.drop_eq_getElem_cons hi, Nat.add_sub_cancel_left, List.take_succ_cons, List.take_zero]
  rw [beq_eq_false_iff_ne]
  intro e
  injection e with e _
  have h2 : s[i] = 32 := by rw [← e]; rfl
  rw [h2] at h
  exact h rfl

set_option maxRecDepth 100000 in
theorem prefix_no (s : ByteArray) (w : World) (h : chAt s 0 ≠ 32) : Calls Tryd.prog 42 #[.string s, .string ⟨#[32]⟩] w fun e w' => e = .returned (.bool false) ∧ w = w' := by
  have HP : Calls Tryd.prog 51 #[.string s, .string ⟨#[32]⟩] w fun e w' => e = .returned (.bool false) ∧ w = w' := by
    by_cases h0 : 1 ≤ s.size
    · have hb := one_byte h0 h
      go_enter Tryd.func51, Tryd.ntmps51
      go_wp2_with fail
      go_ret
      exact ⟨rfl, rfl⟩
    · go_enter Tryd.func51, Tryd.ntmps51
      go_wp2_with fail
      go_ret
      exact ⟨rfl, rfl⟩
  have HPH := Lib.hid HP
  clear HP
  go_enter Tryd.func42, Tryd.ntmps42
  go_wp2_with fail
  refine HPH.out.mono ?_
  rintro e w1 ⟨rfl, rfl⟩
  go_wp2_with fail
  go_ret
  exact ⟨rfl, rfl⟩

set_option maxRecDepth 100000 in
theorem suffix_no (s : ByteArray) (w : World) (hs : s.size ≤ 20000) (h0 : 1 ≤ s.size) (h : chAt s (s.size - 1) ≠ 32) : Calls Tryd.prog 44 #[.string s, .string ⟨#[32]⟩] w fun e w' => e = .returned (.bool false) ∧ ∃ n, w' = w.drewN n := by
  have HP : Calls Tryd.prog 56 #[.string s, .string ⟨#[32]⟩] w fun e w' => e = .returned (.bool false) ∧ w = w' := by
    have hb := one_byte (s := s) (i := s.size - 1) (by omega) h
    rw [show s.size - 1 + 1 = s.size by omega] at hb
    have hin : (s.size : Int) - 1 = ((s.size - 1 : Nat) : Int) := by omega
    go_enter Tryd.func56, Tryd.ntmps56
    go_wp2_with fail
    go_ret
    exact ⟨rfl, rfl⟩
  have HPH := Lib.hid HP
  clear HP
  go_enter Tryd.func44, Tryd.ntmps44
  go_wp2_with fail
  refine HPH.out.mono ?_
  rintro e w1 ⟨rfl, rfl⟩
  go_wp2_with fail
  go_ret
  exact ⟨rfl, 0, rfl⟩

/-- A whole text that reads as a word. -/
structure Good (s : ByteArray) (g : Nat) (v : List Int) : Prop where
  size : s.size ≤ 20000
  pos : 1 ≤ s.size
  gens : 1 ≤ g ∧ g ≤ 16
  first : chAt s 0 ≠ 32
  last : chAt s (s.size - 1) ≠ 32
  reads : RP s g .word 0 [] 0 s.size v

set_option maxRecDepth 100000 in
set_option maxHeartbeats 1000000 in
theorem whole_ok {s : ByteArray} {g : Nat} {v : List Int} (hg : Good s g v) (w : World) (R : Nat) (hrow : RdRow w R s g 0 0) :
    Calls Tryd.prog 30 #[.pointer (some ⟨R, 0, none⟩)] w (RdPost w R s g s.size 0 v) := by
  have hR := hrow.lt
  have HR := Lib.hid (Rd.refl hrow)
  have hl0 := hrow.cell (i := 0) rfl
  obtain ⟨n, hw⟩ := hg.reads.calls hg.size hg.gens.2
  have HW := Lib.hid (word_call hg.size hw w R hrow)
  have HP := fun W => Lib.hid (prefix_no s W hg.first)
  have HS := fun W => Lib.hid (suffix_no s W hg.size hg.pos hg.last)
  clear hrow hw hg
  go_enter Tryd.func30, Tryd.ntmps30
  go_wp2_with fail
  refine ((HP _).out).mono ?_
  rintro e w1 ⟨rfl, rfl⟩
  go_wp2_with fail
  refine HW.out.mono ?_
  rintro e w2 ⟨r, rfl, hr2, hO2⟩
  have HR2 := Lib.hid hr2
  have HO2 := Lib.hid hO2
  have hc0 := hr2.row.cell (i := 0) rfl
  have hc2 := hr2.row.cell (i := 2) rfl
  clear hr2 hO2 hl0
  go_wp2_with fail
  go_quiet (refine Calls.quiet_of (HS _).out)
  go_wp2_with fail
  go_ret
  exact ⟨_, rfl, HR2.out.drewN _, HO2.out⟩

theorem assert_nil (w : World) : (Instr.typeAssert .nilIface 20 71 true).run Tryd.prog w = .ok (.tuple #[.agg #[.int .i64 0, .int .i64 0], .bool false]) w := by
  kernel_rfl
set_option maxRecDepth 100000 in
set_option maxHeartbeats 1000000 in
/-- The closure that catches a fault, where there is none. -/
theorem catch_idle (F : Nat) (w : World) :
    CallsD Tryd.prog 41 #[.pointer (some ⟨F, 0, none⟩)] .returning w fun e u' w' => e = .returned (.tuple #[]) ∧ u' = .returning ∧ Below w.heap.size w w' := by
  have hn := assert_nil
  refine callsD_of_wpS Tryd.func41 rfl fun c₀ cs hu => ?_
  apply wpS_seq
  apply wpS_region
  simp [wpOpsS, go_sem, recoverD, hu, hn, Tryd.ntmps41, Exit.thenS]
  have HB := Lib.hid ((Below.refl w.heap.size w).alloc (Nat.le_refl _) (.cells #[.int .i64 0, .int .i64 0] 71))
  clear hn
  apply wpS_seq
  apply wpS_region
  simp [wpOpsS, go_sem, Exit.thenS]
  refine wpS_cond (t := false) (by simp [Act.eval, Array.replicate]) ?_
  simp only [Bool.false_eq_true, if_false]
  refine wpS_of_wp (wp_skip ?_)
  cases c₀
  have := HB.out
  simp_all [bodyPostS, results, Tryd.results41]

theorem OwnsI.setFar {w : World} {B F i : Nat} {v u : Value} {l : List Int} (h : OwnsI w B v l) (hF : F < B) : OwnsI (w.setCell ⟨F, i, none⟩ u) B v l := by
  refine ⟨h.1, ?_⟩
  rcases h.2 with h | ⟨g, cap, cur, e, hbg, hg, r⟩
  · exact .inl h
  · exact .inr ⟨g, cap, cur, e, hbg, (Below.heap_setCell w ⟨F, i, none⟩ u g (by simp; omega)).trans hg, r⟩

set_option maxRecDepth 100000 in
set_option maxHeartbeats 1000000 in
theorem caught_ok {s : ByteArray} {g : Nat} {v : List Int} (hg : Good s g v) (w : World) (R : Nat) (hrow : RdRow w R s g 0 0) :
    Calls Tryd.prog 29 #[.func (.func 30) #[.pointer (some ⟨R, 0, none⟩)] #[]] w fun e w' => ∃ r, e = .returned (.tuple #[r, .agg #[.int .i64 0, .int .i64 0]]) ∧ OwnsI w' w.heap.size r v ∧ But R w.heap.size w w' := by
  have hmf : ∀ (fn : Fn) (first cap : Array Value) (w : World), (Instr.makeFunc fn first cap).run Tryd.prog w = .ok (.func fn first cap) w := fun _ _ _ _ => rfl
  have hR := hrow.lt
  have hrow2 : RdRow (w.alloc (.cells #[.int .i64 0, .int .i64 0] 38)) R s g 0 0 := Row.alloc hrow _
  have HW := Lib.hid (whole_ok hg _ R hrow2)
  have HF := Lib.hid (Row.new w 38 #[.int .i64 0, .int .i64 0])
  clear hrow hrow2
  go_enter_defers Tryd.func29, Tryd.ntmps29
  go_wp2_with fail
  refine HW.out.mono ?_
  rintro e w2 ⟨r, rfl, hr2, hO2⟩
  have hF2 : Row w2 w.heap.size 38 #[.int .i64 0, .int .i64 0] := (hr2.but.2 w.heap.size (by simp) (by omega)).trans HF.out
  have hc0 := hF2.cell (i := 0) rfl
  have hc1 := hF2.cell (i := 1) rfl
  have hf0 := hF2.frozen 0
  have hf1 := hF2.frozen 1
  have HF2 := Lib.hid hF2
  have HR2 := Lib.hid hr2
  have HO2 := Lib.hid hO2
  clear hr2 hO2 hF2 HW HF
  go_wp2_with fail
  obtain ⟨W3, hW3⟩ : ∃ W3, ((w2.setCell ⟨w.heap.size, 0, none⟩ (.int .i64 0)).setCell ⟨w.heap.size, 1, none⟩ (.int .i64 0)) = W3 := ⟨_, rfl⟩
  have hF3 : Row W3 w.heap.size 38 #[.int .i64 0, .int .i64 0] := by
    have := (HF2.out.set 0 (.int .i64 0)).set 1 (.int .i64 0)
    rw [hW3] at this
    exact this
  have hO3 : OwnsI W3 (w.heap.size + 1) r v := by
    have := HO2.out
    rw [World.size_alloc] at this
    rw [← hW3]; exact (this.setFar (by omega)).setFar (by omega)
  have hB3 : But R w.heap.size w W3 := by
    have h1 : But R w.heap.size w w2 := (But.of ((Below.refl w.heap.size w).alloc (Nat.le_refl _) _) (Nat.le_of_lt hR)).trans (HR2.out.but.mono (by simp))
    rw [← hW3]
    exact (h1.trans (But.set w2 (p := ⟨w.heap.size, 0, none⟩) (.inr (Nat.le_refl _)) (Nat.le_of_lt hR) _)).trans (But.set _ (p := ⟨w.heap.size, 1, none⟩) (.inr (Nat.le_refl _)) (Nat.le_of_lt hR) _)
  rw [hW3]
  have HO3 := Lib.hid hO3
  have HB3 := Lib.hid hB3
  have HF3 := Lib.hid hF3
  clear hW3 hO3 hB3 hF3 HF2 HR2 HO2 hc0 hc1 hf0 hf1
  refine leaves_cons (f := 41) (args := #[.pointer (some ⟨w.heap.size, 0, none⟩)]) (by simp) (by simp [go_sem]) ?_
  refine (catch_idle w.heap.size _).mono ?_
  rintro e u' w4 ⟨rfl, rfl, hb4⟩
  have hR3 : w.heap.size < W3.heap.size := HF3.out.lt
  have hF4 := HF3.out.below hb4 hR3
  have hc0 := hF4.cell (i := 0) rfl
  have hc1 := hF4.cell (i := 1) rfl
  have HB4 := Lib.hid (HB3.out.trans ((But.of hb4 (by omega)).mono (by omega)))
  have HO4 := Lib.hid (show OwnsI w4 w.heap.size r v from (HO3.out.but (R := R) (But.of hb4 (by omega)) (by omega)).base (by omega))
  clear hb4 hF4
  simp [Leaves, settle, results, Tryd.results29, go_sem, hc0, hc1]
  exact ⟨HO4.out, HB4.out⟩

set_option maxRecDepth 100000 in
set_option maxHeartbeats 1000000 in
/-- word.Parse of a text that reads as a word. -/
theorem Parse_ok {s : ByteArray} {g : Nat} {v : List Int} (hg : Good s g v) (w : World) :
    Calls Tryd.prog 13 #[.string s, .int .i64 g] w fun e w' => ∃ r, e = .returned (.tuple #[r, .agg #[.int .i64 0, .int .i64 0]]) ∧ Ints w' w'.heap.size r v ∧ Below w.heap.size w w' := by
  have hmf : ∀ (fn : Fn) (first cap : Array Value) (w : World), (Instr.makeFunc fn first cap).run Tryd.prog w = .ok (.func fn first cap) w := fun _ _ _ _ => rfl
  have hsz := hg.size
  have hgn := hg.gens
  have h1 : ¬ (g : Int) < 1 := by omega
  have h2 : ¬ (16 : Int) < (g : Int) := by omega
  have h3 : ¬ (20000 : Int) < (s.size : Int) := by omega
  have hrow : RdRow ((w.alloc (.cells #[.int .i64 0, .int .i64 0] 38)).alloc (.cells #[.string s, .int .i64 g, .int .i64 0, .int .i64 0] 62)) (w.heap.size + 1) s g 0 0 := by
    have := Row.new (w.alloc (.cells #[.int .i64 0, .int .i64 0] 38)) 62 #[.string s, .int .i64 g, .int .i64 0, .int .i64 0]
    rw [World.size_alloc] at this
    exact this
  have HC := Lib.hid (caught_ok hg _ _ hrow)
  have HF := Lib.hid (show Row ((w.alloc (.cells #[.int .i64 0, .int .i64 0] 38)).alloc (.cells #[.string s, .int .i64 g, .int .i64 0, .int .i64 0] 62)) w.heap.size 38 #[.int .i64 0, .int .i64 0] from (Row.new w _ _).alloc _)
  clear hrow hsz hgn
  go_enter Tryd.func13, Tryd.ntmps13
  go_wp2_with fail
  refine HC.out.mono ?_
  rintro e w2 ⟨r, rfl, hO2, hb2⟩
  have hs2 := hb2.1.size
  have hF2 : Row w2 w.heap.size 38 #[.int .i64 0, .int .i64 0] := (hb2.2 w.heap.size (by simp; omega) (by omega)).trans HF.out
  have hc0 := hF2.cell (i := 0) rfl
  have hc1 := hF2.cell (i := 1) rfl
  have hf0 := hF2.frozen 0
  have hf1 := hF2.frozen 1
  have HF2 := Lib.hid hF2
  have HO2 := Lib.hid hO2
  have HB2 := Lib.hid hb2
  clear hO2 hb2 hF2 HC HF
  go_wp2_with fail
  obtain ⟨W3, hW3⟩ : ∃ W3, ((w2.setCell ⟨w.heap.size, 0, none⟩ (.int .i64 0)).setCell ⟨w.heap.size, 1, none⟩ (.int .i64 0)) = W3 := ⟨_, rfl⟩
  have hF3 : Row W3 w.heap.size 38 #[.int .i64 0, .int .i64 0] := by
    have := (HF2.out.set 0 (.int .i64 0)).set 1 (.int .i64 0)
    rw [hW3] at this
    exact this
  have hO3 : OwnsI W3 (w.heap.size + 1) r v := by
    have := HO2.out.base (B' := w.heap.size + 1) (by simp)
    rw [← hW3]; exact (this.setFar (by omega)).setFar (by omega)
  have hB3 : Below w.heap.size w W3 := by
    have h1 : Below w.heap.size w w2 := (((Below.refl w.heap.size w).alloc (Nat.le_refl _) _).alloc (by simp) _).trans (HB2.out.1.mono (by omega))
    rw [← hW3]
    exact (h1.setCell (p := ⟨w.heap.size, 0, none⟩) (Nat.le_refl _) _).setCell (p := ⟨w.heap.size, 1, none⟩) (Nat.le_refl _) _
  have hc0 := hF3.cell (i := 0) rfl
  have hc1 := hF3.cell (i := 1) rfl
  rw [hW3]
  refine bodyPost_ret (v := .tuple #[r, .agg #[.int .i64 0, .int .i64 0]]) ?_ rfl ⟨r, rfl, hO3.ints, hB3⟩
  simp [results, Tryd.results13, go_sem, hc0, hc1]
end Go.Proofs.YtlpepholcehojaaDoor
