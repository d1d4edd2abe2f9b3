/- What package volume's New, Check and Read answer, as Lean functions of the volume. No condition. -/
import Derived.Test.YtajjhjabehiikabDoorVolApply
namespace Go.Proofs.YtajjhjabehiikabDoor

/-- P3.2 -/
def newOf (n : Int) : Vol × Int := if 1 ≤ n ∧ n ≤ 32 then (newV n.toNat, 0) else (⟨[], []⟩, 2)
/-- P3.1 -/
def vchk (V : Vol) : Int := if volB V then 0 else 7
/-- P3.2: the data and the error's number -/
def readOf (V : Vol) (b : Int) : ByteArray × Int :=
  if volB V = false then (⟨#[]⟩, 7)
  else if ¬ (0 ≤ b ∧ b ≤ (V.blocks.length : Int) - 1) then (⟨#[]⟩, 6)
  else if V.blocks[b.toNat]?.getD 0 < 0 then (⟨#[]⟩, 0)
  else match pos V.items (V.blocks[b.toNat]?.getD 0) with
    | some q => ((V.items[q]?.getD It.zero).data, 0)
    | none => (⟨#[]⟩, 0)

theorem vchk_ok {V : Vol} (h : VOk V) : vchk V = 0 := by unfold vchk; rw [volB_iff.2 h]; rfl
theorem readOf_ok {V : Vol} (h : VOk V) {b : Nat} (hb : b < V.blocks.length) : readOf V (b : Int) = (rd V b, 0) := by
  have hm : ¬ volB V = false := by rw [volB_iff.2 h]; decide
  unfold readOf rd
  rw [if_neg hm, if_neg (by omega), Int.toNat_natCast, List.getElem?_eq_getElem hb]
  simp only [Option.getD_some]
  by_cases h0 : V.blocks[b] < 0
  · rw [if_pos h0, if_pos h0]
  · rw [if_neg h0, if_neg h0]
    cases pos V.items V.blocks[b] with
    | none => rfl
    | some q => rfl
theorem readOf_none {V : Vol} (h : VOk V) {b : Int} (hb : b < 0 ∨ (V.blocks.length : Int) ≤ b) : readOf V b = (⟨#[]⟩, 6) := by
  have hm : ¬ volB V = false := by rw [volB_iff.2 h]; decide
  unfold readOf
  rw [if_neg hm, if_pos (by omega)]
theorem readOf_bad {V : Vol} (h : volB V = false) (b : Int) : readOf V b = (⟨#[]⟩, 7) := by
  unfold readOf
  rw [if_pos h]
theorem ret_read {r : ByteArray × Int} {d : ByteArray} {n : Int} (h : r = (d, n)) : Ending.returned (.tuple #[.string d, .int .i64 n]) = .returned (.tuple #[.string r.1, .int .i64 r.2]) := by rw [h]

theorem vol_len32 {V : Vol} (h : volB V = true) : 1 ≤ V.blocks.length ∧ V.blocks.length ≤ 32 := by
  simp only [volB, Bool.and_eq_true, decide_eq_true_eq] at h
  exact h.1.1.2
theorem vol_at {V : Vol} (h : volB V = true) {k : Nat} {z : Int} (hz : V.blocks[k]? = some z) : blockB V.items z = true := by
  simp only [volB, Bool.and_eq_true, List.all_eq_true] at h
  exact h.1.2 z (List.mem_of_getElem? hz)
end Go.Proofs.YtajjhjabehiikabDoor
