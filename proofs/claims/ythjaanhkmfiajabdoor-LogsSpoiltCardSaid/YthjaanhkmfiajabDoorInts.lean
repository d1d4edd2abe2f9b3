/- Slices of integers and volumes as Lean data: what they hold in memory. No condition. -/
import Derived.Test.YthjaanhkmfiajabDoorItems
import Derived.Test.YthjaanhkmfiajabDoorBase
namespace Go.Proofs.YthjaanhkmfiajabDoor
open Go.RowKit

/-- the slice value v holds the integers Z -/
def IntsAt (w : World) (v : Value) (Z : List Int) : Prop :=
  ∃ (p : Option Addr) (cap : Nat), v = .slice p Z.length cap ∧ Z.length ≤ 140737488355328 ∧ (p = none → cap = 0) ∧
    ∀ (i : Nat) (z : Int), Z[i]? = some z → ∃ b off, p = some ⟨b, off, none⟩ ∧ b < w.heap.size ∧ w.cell? ⟨b, off + i, none⟩ = some (.int .i64 z)

theorem IntsAt.keep {w w' : World} {v : Value} {Z : List Int} (h : IntsAt w v Z) (hb : Below w.heap.size w w') : IntsAt w' v Z := by
  obtain ⟨p, cap, hv, hl, hn, hc⟩ := h
  refine ⟨p, cap, hv, hl, hn, fun i x hx => ?_⟩
  obtain ⟨b, off, hp, hlt, h0⟩ := hc i x hx
  exact ⟨b, off, hp, Nat.lt_of_lt_of_le hlt hb.size, (hb.cell (p := ⟨b, _, none⟩) hlt).trans h0⟩

/-- integers of 64 bits -/
def WideZ (Z : List Int) : Prop := ∀ z ∈ Z, -9223372036854775808 ≤ z ∧ z ≤ 9223372036854775807

/-- a volume -/
structure Vol where
  items : List It
  blocks : List Int

/-- the value v, a struct, holds the volume V -/
def VolAt (w : World) (v : Value) (V : Vol) : Prop := ∃ vi vb, v = .agg #[vi, vb] ∧ ItemsAt w vi V.items ∧ IntsAt w vb V.blocks
theorem VolAt.keep {w w' : World} {v : Value} {V : Vol} (h : VolAt w v V) (hb : Below w.heap.size w w') : VolAt w' v V := by
  obtain ⟨vi, vb, hv, h1, h2⟩ := h
  exact ⟨vi, vb, hv, h1.keep hb, h2.keep hb⟩

/-- P3.1, a block's cell -/
def blockB (L : List It) (z : Int) : Bool := decide (z = -1) || (decide (0 ≤ z) && (pos L z).isSome)
/-- P3.1, an item's uses -/
def usesB (Z : List Int) (x : It) : Bool := decide ((Z.count x.id : Int) = x.refs) && decide (0 < x.data.size)
/-- P3.1 -/
def volB (V : Vol) : Bool := mayB V.items && decide (1 ≤ V.blocks.length ∧ V.blocks.length ≤ 32) && V.blocks.all (blockB V.items) && V.items.all (usesB V.blocks)

theorem vol_items {V : Vol} (h : mayB V.items = false) : volB V = false := by simp [volB, h]
theorem vol_len {V : Vol} (h : ¬ (1 ≤ V.blocks.length ∧ V.blocks.length ≤ 32)) : volB V = false := by simp only [volB, decide_eq_false h, Bool.and_false, Bool.false_and]
theorem vol_block {V : Vol} {k : Nat} {z : Int} (hz : V.blocks[k]? = some z) (h : blockB V.items z = false) : volB V = false := by
  have : V.blocks.all (blockB V.items) = false := by
    rw [List.all_eq_false]
    exact ⟨z, List.mem_of_getElem? hz, by simp [h]⟩
  simp [volB, this]
theorem vol_uses {V : Vol} {k : Nat} {x : It} (hx : V.items[k]? = some x) (h : usesB V.blocks x = false) : volB V = false := by
  have : V.items.all (usesB V.blocks) = false := by
    rw [List.all_eq_false]
    exact ⟨x, List.mem_of_getElem? hx, by simp [h]⟩
  simp [volB, this]
theorem all_at {α : Type} {L : List α} {f : α → Bool} (h : ∀ (k : Nat) (x : α), k < L.length → L[k]? = some x → f x = true) : L.all f = true := by
  rw [List.all_eq_true]
  intro x hx
  obtain ⟨j, hj⟩ := List.getElem?_of_mem hx
  exact h j x (List.getElem?_eq_some_iff.1 hj).1 hj
theorem vol_all {V : Vol} (h1 : mayB V.items = true) (h2 : 1 ≤ V.blocks.length ∧ V.blocks.length ≤ 32)
    (h3 : ∀ (k : Nat) (z : Int), k < V.blocks.length → V.blocks[k]? = some z → blockB V.items z = true) (h4 : ∀ (k : Nat) (x : It), k < V.items.length → V.items[k]? = some x → usesB V.blocks x = true) : volB V = true := by
  simp only [volB, h1, decide_eq_true h2, all_at h3, all_at h4, Bool.and_self]

theorem count_snoc {Z : List Int} {k : Nat} {z y : Int} (hz : Z[k]? = some z) : (Z.take (k + 1)).count y = (Z.take k).count y + (if z = y then 1 else 0) := by
  rw [take_snoc hz, List.count_append, List.count_singleton]
  simp [beq_iff_eq]

end Go.Proofs.YthjaanhkmfiajabDoor
