/- Lists of operations that a call builds: their memory. -/
import Derived.Test.YtepenlciaanoeaaGreatDoorLKept
import Derived.Test.YtepenlciaanoeaaGreatDoorLPure
import Derived.Test.YtepenlciaanoeaaGreatDoorLRdA
set_option linter.unusedVariables false
set_option linter.unusedSimpArgs false
set_option maxRecDepth 100000
namespace Go.Proofs.YtepenlciaanoeaaGreatDoor
open Go.RowKit Go.Sort

/-- v is a list of operations that a call has built, from block B on; their lists lie elsewhere -/
structure OpsR (B : Nat) (v : Value) (L : List OO) (w : World) : Prop where
  own : OwnO B w v L
  on : ∀ x ∈ L, On (fun z => v.ownBlock ≠ some z) (fun W => x.o.in_ x.P W) w
theorem OpsR.nil (B : Nat) (w : World) : OpsR B (.slice none 0 0) [] w := ⟨World.ownsRow_nil _ _ _ _, fun x h => by cases h⟩
theorem OpsR.below {B : Nat} {v : Value} {L : List OO} {w w' : World} (h : OpsR B v L w) (hb : Below w.heap.size w w') : OpsR B v L w' := ⟨own_below h.own hb, fun x hx => (h.on x hx).step (Kept.of (Z := fun _ => True) hb) (fun _ _ _ => trivial) (fun _ _ k => k)⟩
theorem OpsR.app {B : Nat} {v v' : Value} {L : List OO} {w w' : World} (h : OpsR B v L w) {x : OO} (hx : On (fun z => v.ownBlock ≠ some z) (fun W => x.o.in_ x.P W) w) (hg : w.grownBy w' v.ownBlock) (hn : OwnO B w' v' (L ++ [x])) (ha : v'.ownBlock = v.ownBlock ∨ v'.ownBlock = some w.heap.size) : OpsR B v' (L ++ [x]) w' := by
  refine ⟨hn, fun y hy => ?_⟩
  have hy' : On (fun z => v.ownBlock ≠ some z) (fun W => y.o.in_ y.P W) w := by
    rcases List.mem_append.1 hy with hy | hy
    · exact h.on y hy
    · rw [List.mem_singleton.1 hy]
      exact hx
  refine hy'.step (Kept.grown (Z := fun z => v.ownBlock ≠ some z) hg fun z hz e => hz e.symm) (fun z _ k => k) (fun z hl hz => ?_)
  rcases ha with e | e
  · rw [e]
    exact hz
  · rw [e]
    intro k
    cases k
    exact absurd hl (Nat.lt_irrefl _)
theorem OpsR.slo {B : Nat} {A : Option Addr} {n c : Nat} {L : List OO} {w : World} (h : OpsR B (.slice A n c) L w) : SlO w A L ∧ L.length = n ∧ n ≤ c ∧ c ≤ maxLen := OwnO.sl h.own fun x hx => (h.on x hx).here
theorem on_new {o : OpL} {P : OpP} {w : World} {v : Value} {S : Nat} (hi : o.in_ P w) (hf : P.from_ S) (hv : ∀ z, v.ownBlock = some z → z < S) : On (fun z => v.ownBlock ≠ some z) (fun W => o.in_ P W) w := fun W k =>
  hi.kept k fun b off e hl hz => Nat.lt_irrefl _ (Nat.lt_of_lt_of_le (hv b hz) (hf b off e))
theorem on_old {o : OpL} {P : OpP} {w wr : World} {v : Value} (hi : o.in_ P w) (hb : Below w.heap.size w wr) (hv : ∀ z, v.ownBlock = some z → w.heap.size ≤ z) : On (fun z => v.ownBlock ≠ some z) (fun W => o.in_ P W) wr := fun W k =>
  hi.kept (Z := fun z => z < w.heap.size) ((Kept.of hb).trans (k.sub fun z _ hz e => Nat.lt_irrefl _ (Nat.lt_of_lt_of_le hz (hv z e)))) fun b off e hl => hl
end Go.Proofs.YtepenlciaanoeaaGreatDoor
