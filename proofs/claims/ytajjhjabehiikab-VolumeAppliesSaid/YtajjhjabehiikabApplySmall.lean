/- What applying gives is small. No program's run; no condition but those in the statements. -/
import Derived.Test.YtajjhjabehiikabApSt
namespace Go.Proofs.Ytajjhjabehiikab

theorem keepAll_small : ∀ (W : List Wr) (V : Vol), V.items.length ≤ 49 → V.blocks.length ≤ 32 → (keepAll V W).1.items.length ≤ 49 ∧ (keepAll V W).1.blocks.length ≤ 32
  | [], V, h1, h2 => ⟨h1, h2⟩
  | x :: W, V, h1, h2 => by
    by_cases h : (keepW V x).2 = 0
    · rw [keepAll_go h]
      exact keepAll_small W _ (keepW_le V x h1) (by rw [keepW_len V x h]; exact h2)
    · rw [keepAll_stop h]; simp
theorem applied_small (V : Vol) (W : List Wr) : (applied V W).1.items.length ≤ 49 ∧ (applied V W).1.blocks.length ≤ 32 := by
  unfold applied
  split
  · simp
  · rename_i hm
    have hv := volB_iff.1 (by simpa using hm)
    split
    · simp
    · refine keepAll_small W _ (Nat.le_trans (dropAll_le W V) (by have := may_len hv.may; omega)) (by rw [dropAll_len]; exact hv.len.2)
end Go.Proofs.Ytajjhjabehiikab
