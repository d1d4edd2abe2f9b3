/- Slices of raw numbers as Lean data: heads and tails. No condition. -/
import Derived.Test.YthjaanhkmfiajacGreatDoorKeepData
namespace Go.Proofs.YthjaanhkmfiajacGreatDoor
open Go.RowKit

/-- the slice value v holds the raw things L -/
def RawsAt (w : World) (v : Value) (L : List Rw) : Prop :=
  ∃ (p : Option Addr) (cap : Nat), v = .slice p L.length cap ∧ L.length ≤ cap ∧ cap ≤ 140737488355328 ∧
    ∀ (i : Nat) (x : Rw), L[i]? = some x → ∃ b off, p = some ⟨b, off, none⟩ ∧ b < w.heap.size ∧
      w.cell? ⟨b, off + i * 4, none⟩ = some (.int .i64 x.kind) ∧ w.cell? ⟨b, off + i * 4 + 1, none⟩ = some (.int .i64 x.a) ∧ w.cell? ⟨b, off + i * 4 + 2, none⟩ = some (.int .i64 x.b) ∧ w.cell? ⟨b, off + i * 4 + 3, none⟩ = some (.int .i64 x.c)
theorem RawsAt.keep {w w' : World} {v : Value} {L : List Rw} (h : RawsAt w v L) (hb : Below w.heap.size w w') : RawsAt w' v L := by
  obtain ⟨p, cap, hv, hl, hc, hn⟩ := h
  refine ⟨p, cap, hv, hl, hc, fun i x hx => ?_⟩
  obtain ⟨b, off, hp, hlt, h0, h1, h2, h3⟩ := hn i x hx
  exact ⟨b, off, hp, Nat.lt_of_lt_of_le hlt hb.size, (hb.cell (p := ⟨b, _, none⟩) hlt).trans h0, (hb.cell (p := ⟨b, _, none⟩) hlt).trans h1, (hb.cell (p := ⟨b, _, none⟩) hlt).trans h2, (hb.cell (p := ⟨b, _, none⟩) hlt).trans h3⟩

theorem RawsAt.take {w : World} {p : Option Addr} {n c : Nat} {L : List Rw} (h : RawsAt w (.slice p n c) L) {m : Nat} (hm : m ≤ n) : RawsAt w (.slice p m c) (L.take m) := by
  obtain ⟨p', c', he, hl, hc, hn⟩ := h
  cases he
  have hlt : (L.take m).length = m := by rw [List.length_take]; omega
  refine ⟨p, c, by rw [hlt], by omega, hc, fun i x hx => hn i x ?_⟩
  rw [List.getElem?_take] at hx
  split at hx
  · exact hx
  · cases hx
theorem RawsAt.drop {w : World} {b off n c : Nat} {L : List Rw} (h : RawsAt w (.slice (some ⟨b, off, none⟩) n c) L) {m : Nat} (hm : m ≤ n) : RawsAt w (.slice (if c = m then some ⟨b, off, none⟩ else some ⟨b, off + m * 4, none⟩) (n - m) (c - m)) (L.drop m) := by
  obtain ⟨p', c', he, hl, hc, hn⟩ := h
  cases he
  refine ⟨_, _, by rw [List.length_drop], by rw [List.length_drop]; omega, by omega, fun i x hx => ?_⟩
  rw [List.getElem?_drop] at hx
  have hlt' := (List.getElem?_eq_some_iff.1 hx).1
  obtain ⟨b', off', hp, hlt, c0, c1, c2, c3⟩ := hn (m + i) x hx
  cases hp
  rw [if_neg (by omega)]
  refine ⟨b, off + m * 4, rfl, hlt, ?_, ?_, ?_, ?_⟩
  · rw [show off + m * 4 + i * 4 = off + (m + i) * 4 by omega]; exact c0
  · rw [show off + m * 4 + i * 4 + 1 = off + (m + i) * 4 + 1 by omega]; exact c1
  · rw [show off + m * 4 + i * 4 + 2 = off + (m + i) * 4 + 2 by omega]; exact c2
  · rw [show off + m * 4 + i * 4 + 3 = off + (m + i) * 4 + 3 by omega]; exact c3
theorem RawsAt.size {w : World} {v : Value} {L : List Rw} (h : RawsAt w v L) (hne : 0 < L.length) : ∃ b off c, v = .slice (some ⟨b, off, none⟩) L.length c ∧ L.length ≤ c ∧ c ≤ 140737488355328 := by
  obtain ⟨p, c, rfl, hl, hc, hn⟩ := h
  obtain ⟨b, off, rfl, _⟩ := hn 0 L[0] (List.getElem?_eq_getElem hne)
  exact ⟨b, off, c, rfl, hl, hc⟩
theorem RawsAt.isSlice {w : World} {v : Value} {L : List Rw} (h : RawsAt w v L) : ∃ p c, v = .slice p L.length c := by
  obtain ⟨p, c, rfl, _⟩ := h
  exact ⟨p, c, rfl⟩

def lenOf : Value → Nat
  | .slice _ n _ => n
  | _ => 0

end Go.Proofs.YthjaanhkmfiajacGreatDoor
