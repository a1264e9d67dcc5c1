/- The examples that each statement of this stage calls first. -/
import Derived.Test.YtlpepholcehojaaDoorWText
import Derived.Test.YtlpepholcehojaaDoorWWhole
namespace Go.Proofs.YtlpepholcehojaaDoor
open Go Go.RowKit

def liveT : ByteArray := ⟨#[97, 42, 98, 94, 45, 49, 42, 40, 97, 42, 99, 41, 94, 50]⟩
theorem here (p : Nat) (hp : p ≤ liveT.size) (h : chAt liveT p ≠ 32) : Skp liveT p p := Skp.here hp h
theorem liveLet (o p : Nat) (k : Nat) (hp : p ≤ liveT.size) (hk : k < 3) (hc : chAt liveT p = 97 + (k : Int)) (hq : p + 1 ≤ liveT.size) (h2 : chAt liveT (p + 1) ≠ 32) (h3 : chAt liveT (p + 1) ≠ 94) : RP liveT 3 .factor o [] p (p + 1) [(k : Int) + 1] :=
  .plain (.letter (here p hp (by omega)) hk hc) (by simp) (here (p + 1) hq h2) h3
theorem liveE1 : Expo liveT 4 6 (-1) :=
  ⟨4, 5, 1, here 4 (by decide) (by decide), ⟨by decide, by decide, fun i h1 h2 => by
    have : i = 5 := by omega
    subst this; decide, by decide, by decide, by decide, by decide +kernel, by decide⟩, .inl ⟨by decide, by decide, by decide⟩⟩
theorem liveE2 : Expo liveT 13 14 2 :=
  ⟨13, 13, 2, here 13 (by decide) (by decide), ⟨by decide, by decide, fun i h1 h2 => by
    have : i = 13 := by omega
    subst this; decide, by decide, by decide, by decide, by decide +kernel, by decide⟩, .inr ⟨by decide, by decide, by decide⟩⟩
theorem live_good : Good liveT 3 [1, -2, 1, 3, 1, 3] := by
  have f1 : RP liveT 3 .factor 0 [] 0 1 [1] := liveLet 0 0 0 (by decide) (by decide) (by decide) (by decide) (by decide) (by decide)
  have f2 : RP liveT 3 .factor 0 [] 2 6 (zp [2] (-1)) := .power (.letter (k := 1) (here 2 (by decide) (by decide)) (by decide) (by decide)) (by decide) (here 3 (by decide) (by decide)) (by decide) liveE1 (by decide)
  have g1 : RP liveT 3 .factor 1 [] 8 9 [1] := liveLet 1 8 0 (by decide) (by decide) (by decide) (by decide) (by decide) (by decide)
  have g2 : RP liveT 3 .factor 1 [] 10 11 [3] := liveLet 1 10 2 (by decide) (by decide) (by decide) (by decide) (by decide) (by decide)
  have gw : RP liveT 3 .word 1 [] 8 11 [1, 3] := .more (here 8 (by decide) (by decide)) g1 (by decide) (here 9 (by decide) (by decide)) (by decide) (.last (acc := [1]) (here 10 (by decide) (by decide)) g2 (by decide) (here 11 (by decide) (by decide)) (by decide))
  have f3 : RP liveT 3 .factor 0 [] 7 14 (zp [1, 3] 2) := .power (.group (here 7 (by decide) (by decide)) (by decide) (by decide) gw (here 11 (by decide) (by decide)) (by decide)) (by decide) (here 12 (by decide) (by decide)) (by decide) liveE2 (by decide)
  have h : RP liveT 3 .word 0 [] 0 14 [1, -2, 1, 3, 1, 3] := .more (here 0 (by decide) (by decide)) f1 (by decide) (here 1 (by decide) (by decide)) (by decide)
    (.more (here 2 (by decide) (by decide)) f2 (by decide) (here 6 (by decide) (by decide)) (by decide) (.last (acc := [1, -2]) (here 7 (by decide) (by decide)) f3 (by decide) (here 14 (by decide) (by decide)) (by decide)))
  exact ⟨by decide, by decide, by decide, by decide, by decide, h⟩
end Go.Proofs.YtlpepholcehojaaDoor
