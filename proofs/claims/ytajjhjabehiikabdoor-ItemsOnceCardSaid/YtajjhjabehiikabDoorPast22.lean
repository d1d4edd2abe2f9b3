/- Two boxes of two cells that stand behind a call's own work. No condition. -/
import Derived.Test.YtajjhjabehiikabDoorBase
namespace Go.Proofs.YtajjhjabehiikabDoor
open Go.RowKit

def Past22 (w : World) (a b c d : Value) (T : TypeId) (wr : World) : Prop := Below ((w.alloc (.cells #[a, b] T)).alloc (.cells #[c, d] T)).heap.size ((w.alloc (.cells #[a, b] T)).alloc (.cells #[c, d] T)) wr
theorem Past22.cells {w wr : World} {a b c d : Value} {T : TypeId} (h : Past22 w a b c d T wr) :
    wr.cell? ⟨w.heap.size, 0, none⟩ = some a ∧ wr.cell? ⟨w.heap.size, 1, none⟩ = some b ∧ wr.cell? ⟨w.heap.size + 1, 0, none⟩ = some c ∧ wr.cell? ⟨w.heap.size + 1, 1, none⟩ = some d := by
  refine ⟨?_, ?_, ?_, ?_⟩
  · rw [Below.cell h (p := ⟨w.heap.size, 0, none⟩) (by simp; omega)]; simp
  · rw [Below.cell h (p := ⟨w.heap.size, 1, none⟩) (by simp; omega)]; simp
  · rw [Below.cell h (p := ⟨w.heap.size + 1, 0, none⟩) (by simp)]; simp
  · rw [Below.cell h (p := ⟨w.heap.size + 1, 1, none⟩) (by simp)]; simp
theorem Past22.box {w wr : World} {a b c d : Value} {T : TypeId} (h : Past22 w a b c d T wr) : Below w.heap.size w wr := (below_alloc (below_alloc (Below.refl _ _) _) _).trans (h.mono (by simp; omega))
theorem Past22.dr {w wr : World} {a b c d : Value} {T : TypeId} (h : Past22 w a b c d T wr) (n : Nat) : Past22 w a b c d T (wr.drewN n) := below_dr h n
theorem Past22.start (w : World) (a b c d : Value) (T : TypeId) : Past22 w a b c d T ((w.alloc (.cells #[a, b] T)).alloc (.cells #[c, d] T)) := Below.refl _ _
end Go.Proofs.YtajjhjabehiikabDoor
