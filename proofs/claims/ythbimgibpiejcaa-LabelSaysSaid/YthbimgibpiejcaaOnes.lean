/- The number of ones of a small number, as math/bits tells it. -/
import Derived.Test.YthbimgibpiejcaaLab1
namespace Go.Proofs.Ythbimgibpiejcaa
open Go.RowKit

def pop1 (x : Int) : Int := IntKind.u64.wrap (bits BinOp.and IntKind.u64 (x / 2) 6148914691236517205 + bits BinOp.and IntKind.u64 x 6148914691236517205)
def pop2 (x : Int) : Int := IntKind.u64.wrap (bits BinOp.and IntKind.u64 (x / 4) 3689348814741910323 + bits BinOp.and IntKind.u64 x 3689348814741910323)
def pop3 (x : Int) : Int := bits BinOp.and IntKind.u64 (IntKind.u64.wrap (x / 16 + x)) 1085102592571150095
def pop4 (x : Int) : Int := IntKind.u64.wrap (x + x / 256)
def pop5 (x : Int) : Int := IntKind.u64.wrap (x + x / 65536)
def pop6 (x : Int) : Int := IntKind.u64.wrap (x + x / 4294967296)
def pop7 (x : Int) : Int := bits BinOp.and IntKind.i64 (wrap64 x) 127

theorem pop_fin : ∀ n : Fin 256, pop7 (pop6 (pop5 (pop4 (pop3 (pop2 (pop1 (n.val : Int))))))) = (Lib.onesCount n.val : Int) := by decide +kernel
theorem pop_eq (c : Nat) (h : c ≤ 255) : pop7 (pop6 (pop5 (pop4 (pop3 (pop2 (pop1 (c : Int))))))) = (Lib.onesCount c : Int) := pop_fin ⟨c, by omega⟩

set_option maxHeartbeats 400000 in
theorem ones_any (c : Nat) (w : World) (h : c ≤ 255) :
    Calls Try.prog 36 #[.int .u64 c] w fun e w' =>
      e = .returned (.int .i64 (Lib.onesCount c)) ∧ w = w' := by
  go_enter Try.func36, Try.ntmps36
  go_wp2
  go_ret
  exact ⟨congrArg (fun n => Ending.returned (.int .i64 n)) (pop_eq c h), rfl⟩
end Go.Proofs.Ythbimgibpiejcaa
