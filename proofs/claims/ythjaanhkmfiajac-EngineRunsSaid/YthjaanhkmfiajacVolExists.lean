/- volume.exists: what it returns. No condition. -/
import Derived.Test.YthjaanhkmfiajacChecked
import Derived.Test.YthjaanhkmfiajacPure
import Derived.Deep.QuietTactic
import Derived.BigQuiet
import Derived.IntWalk
import Derived.Lib.Hide
import Derived.Outline
namespace Go.Proofs.Ythjaanhkmfiajac
open Go.RowKit

def exB (a b : Int) : Bool := decide (0 ≤ a ∧ a < b)

theorem exists_any (a b : Int) (w : World) :
    Calls Try.prog 57 #[.int .i64 a, .int .i64 b] w fun e w' => e = .returned (.bool (exB a b)) ∧ w = w' := by
  by_cases h1 : 0 ≤ a <;> by_cases h2 : a < b
  all_goals
    have e : exB a b = decide (0 ≤ a ∧ a < b) := rfl
    have E : Hid (exB a b = decide (0 ≤ a ∧ a < b)) := e
    clear e
    go_enter Try.func57, Try.ntmps57
    go_wp2
    go_ret
    refine ⟨?_, rfl⟩
    rw [E.out]
    simp [h1, h2]
end Go.Proofs.Ythjaanhkmfiajac
