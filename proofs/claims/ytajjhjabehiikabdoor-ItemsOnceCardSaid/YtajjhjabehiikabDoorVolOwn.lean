/- A volume in rows that a call owns. No condition. -/
import Derived.Test.YtajjhjabehiikabDoorIntsOwn
import Derived.Test.YtajjhjabehiikabDoorUsedMath
import Derived.Test.YtajjhjabehiikabDoorVolApply
namespace Go.Proofs.YtajjhjabehiikabDoor
open Go.RowKit

theorem Tryd.infoInt : (Tryd.prog.info? 3).map (fun i => (i.zero, i.size, i.bytes)) = some (some (.int .i64 0), 1, 8) := by kernel_rfl

theorem OwnZ.rebase {B : Nat} {e : TypeId} {v : Value} {l : List Int} {W0 w : World} (h : OwnZ B e v l W0 w) : OwnZ B e v l w w := ⟨h.1, Below.refl _ _, h.2.2⟩
theorem OwnI.rebase {B : Nat} {e : TypeId} {v : Value} {l : List It} {W0 w : World} (h : OwnI B e v l W0 w) : OwnI B e v l w w := ⟨h.1, Below.refl _ _, h.2.2⟩
theorem row_setBox {B size g k : Nat} {e : TypeId} {v x : Value} {n : Nat} {xs : List Value} {w : World} (h : w.ownsRow B e size v n xs) (hg : g < B) : (w.setCell ⟨g, k, none⟩ x).ownsRow B e size v n xs := by
  refine ⟨h.1, ?_⟩
  rcases h.2 with hn | ⟨b, cap, cur, hv, hB, hb, rest⟩
  · exact .inl hn
  · exact .inr ⟨b, cap, cur, hv, hB, by rw [Below.heap_setCell _ _ _ _ (show b ≠ g by omega)]; exact hb, rest⟩
theorem size_setCell (w : World) (p : Addr) (x : Value) : (w.setCell p x).heap.size = w.heap.size := by simp
/-- a store into an older block -/
theorem OwnZ.setBox {B g k : Nat} {e : TypeId} {v x : Value} {l : List Int} {W0 w : World} (h : OwnZ B e v l W0 w) (hg : g < B) : OwnZ B e v l (w.setCell ⟨g, k, none⟩ x) (w.setCell ⟨g, k, none⟩ x) :=
  ⟨row_setBox h.1 hg, Below.refl _ _, by rw [size_setCell]; exact h.2.2⟩
theorem OwnI.setBox {B g k : Nat} {e : TypeId} {v x : Value} {l : List It} {W0 w : World} (h : OwnI B e v l W0 w) (hg : g < B) : OwnI B e v l (w.setCell ⟨g, k, none⟩ x) (w.setCell ⟨g, k, none⟩ x) :=
  ⟨row_setBox h.1 hg, Below.refl _ _, by rw [size_setCell]; exact h.2.2⟩

/-- a volume in rows of the call's own, apart from each other -/
def OwnVol (B : Nat) (vi vb : Value) (V : Vol) (W0 w : World) : Prop :=
  OwnI B 33 vi V.items W0 w ∧ OwnZ B 3 vb V.blocks W0 w ∧ (vi.ownBlock = none ∨ vi.ownBlock ≠ vb.ownBlock)
theorem OwnVol.below {B : Nat} {vi vb : Value} {V : Vol} {W0 w : World} (h : OwnVol B vi vb V W0 w) : Below B W0 w := h.1.2.1
theorem OwnVol.lower {B B' : Nat} {vi vb : Value} {V : Vol} {W0 W1 w : World} (h : OwnVol B' vi vb V W1 w) (hB : B ≤ B') (hb : Below B W0 W1) : OwnVol B vi vb V W0 w := ⟨h.1.lower hB hb, h.2.1.lower hB hb, h.2.2⟩
theorem OwnVol.setBox {B g k : Nat} {vi vb x : Value} {V : Vol} {W0 w : World} (h : OwnVol B vi vb V W0 w) (hg : g < B) : OwnVol B vi vb V (w.setCell ⟨g, k, none⟩ x) (w.setCell ⟨g, k, none⟩ x) := ⟨h.1.setBox hg, h.2.1.setBox hg, h.2.2⟩
theorem OwnVol.vol {B : Nat} {vi vb : Value} {V : Vol} {W0 w : World} (h : OwnVol B vi vb V W0 w) (h1 : V.items.length ≤ 140737488355328) (h2 : V.blocks.length ≤ 140737488355328) : VolAt w (.agg #[vi, vb]) V :=
  ⟨vi, vb, rfl, h.1.items h1, h.2.1.ints h2⟩

theorem OwnI.isSlice {B : Nat} {e : TypeId} {v : Value} {L : List It} {W0 w : World} (h : OwnI B e v L W0 w) : ∃ p cap, v = .slice p L.length cap := by
  rcases h.1.2 with ⟨rfl, hn⟩ | ⟨g, cap, cur, rfl, _⟩
  · exact ⟨none, 0, by rw [hn]⟩
  · exact ⟨_, cap, rfl⟩
theorem OwnZ.isSlice {B : Nat} {e : TypeId} {v : Value} {L : List Int} {W0 w : World} (h : OwnZ B e v L W0 w) : ∃ p cap, v = .slice p L.length cap := by
  rcases h.1.2 with ⟨rfl, hn⟩ | ⟨g, cap, cur, rfl, _⟩
  · exact ⟨none, 0, by rw [hn]⟩
  · exact ⟨_, cap, rfl⟩

def RetVol (V : Vol) (n : Int) (W0 : World) (e : Ending) (w' : World) : Prop := ∃ vi vb, e = .returned (.tuple #[.agg #[vi, vb], .int .i64 n]) ∧ OwnVol W0.heap.size vi vb V W0 w'

theorem below_set2 {w w1 : World} (hb : Below w.heap.size w w1) (a b : Value) : Below w.heap.size w ((w1.setCell ⟨w.heap.size, 0, none⟩ a).setCell ⟨w.heap.size, 1, none⟩ b) :=
  (hb.setCell (p := ⟨w.heap.size, 0, none⟩) (Nat.le_refl _) a).setCell (p := ⟨w.heap.size, 1, none⟩) (Nat.le_refl _) b
theorem OwnVol.none {B : Nat} {W0 w : World} (hb : Below B W0 w) (h : B ≤ w.heap.size) : OwnVol B (.slice none 0 0) (.slice none 0 0) ⟨[], []⟩ W0 w := ⟨OwnI.nil hb h, OwnZ.nil hb h, Or.inl rfl⟩
end Go.Proofs.YtajjhjabehiikabDoor
