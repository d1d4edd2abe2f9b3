/- Slices of writes as Lean data. No condition. -/
import Derived.Test.YthjaanhkmfiajabDoorVolApply
namespace Go.Proofs.YthjaanhkmfiajabDoor
open Go.RowKit

/-- the slice value v holds the writes W -/
def WritesAt (w : World) (v : Value) (W : List Wr) : Prop :=
  ∃ (p : Option Addr) (cap : Nat), v = .slice p W.length cap ∧ W.length ≤ 140737488355328 ∧ (p = none → cap = 0) ∧
    ∀ (i : Nat) (x : Wr), W[i]? = some x → ∃ b off, p = some ⟨b, off, none⟩ ∧ b < w.heap.size ∧
      w.cell? ⟨b, off + i * 2, none⟩ = some (.int .i64 x.block) ∧ w.cell? ⟨b, off + i * 2 + 1, none⟩ = some (.string x.data)
theorem WritesAt.keep {w w' : World} {v : Value} {W : List Wr} (h : WritesAt w v W) (hb : Below w.heap.size w w') : WritesAt w' v W := by
  obtain ⟨p, cap, hv, hl, hn, hc⟩ := h
  refine ⟨p, cap, hv, hl, hn, fun i x hx => ?_⟩
  obtain ⟨b, off, hp, hlt, h0, h1⟩ := hc i x hx
  exact ⟨b, off, hp, Nat.lt_of_lt_of_le hlt hb.size, (hb.cell (p := ⟨b, _, none⟩) hlt).trans h0, (hb.cell (p := ⟨b, _, none⟩) hlt).trans h1⟩

def prevAt (W : List Wr) : Nat → Option Int
  | 0 => none
  | k + 1 => (W[k]?).map Wr.block
theorem wRest_step {n : Int} {W : List Wr} {k : Nat} {x : Wr} (hx : W[k]? = some x) (h : wRest n none W = wRest n (prevAt W k) (W.drop k)) :
    wRest n none W = if wOne n (prevAt W k) x = 0 then wRest n (prevAt W (k + 1)) (W.drop (k + 1)) else wOne n (prevAt W k) x := by
  obtain ⟨hk, he⟩ := List.getElem?_eq_some_iff.1 hx
  rw [h, List.drop_eq_getElem_cons hk, he]
  show (if _ then _ else _) = _
  have : prevAt W (k + 1) = some x.block := by show (W[k]?).map Wr.block = _; rw [hx]; rfl
  rw [this]
theorem wRest_go {n : Int} {W : List Wr} {k : Nat} {x : Wr} (hx : W[k]? = some x) (h : wRest n none W = wRest n (prevAt W k) (W.drop k)) (h0 : wOne n (prevAt W k) x = 0) : wRest n none W = wRest n (prevAt W (k + 1)) (W.drop (k + 1)) := by
  rw [wRest_step hx h, if_pos h0]
theorem wRest_stop {n : Int} {W : List Wr} {k : Nat} {x : Wr} (hx : W[k]? = some x) (h : wRest n none W = wRest n (prevAt W k) (W.drop k)) {m : Int} (hm : m ≠ 0) (h0 : wOne n (prevAt W k) x = m) : wRest n none W = m := by
  rw [wRest_step hx h, if_neg (by rw [h0]; exact hm), h0]
end Go.Proofs.YthjaanhkmfiajabDoor
