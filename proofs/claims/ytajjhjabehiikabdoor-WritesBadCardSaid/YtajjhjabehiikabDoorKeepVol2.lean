/- The statements' own Volume once more, its two slices written out. No condition but that the numbers are ints. -/
import Derived.Test.YtajjhjabehiikabDoorKeepVolume
namespace Go.Proofs.YtajjhjabehiikabDoor
open Go.RowKit

def VolRet2 (w : World) (e : Ending) (w' : World) : Prop :=
  ∃ p c pz cz V, e = .returned (.agg #[.slice p V.items.length c, .slice pz V.blocks.length cz]) ∧ VolAt w' (.agg #[.slice p V.items.length c, .slice pz V.blocks.length cz]) V ∧ V16 V ∧ Below w.heap.size w w'
theorem Volume_at (v : Value) (L : List Rw) (w : World) (h : RawsAt w v L) (hok : ∀ r ∈ L, RwOk r) : Calls Tryd.prog 8 #[v] w (VolRet2 w) := by
  refine (Volume_any v L w h hok).mono ?_
  rintro e w1 ⟨vi, vb, V, rfl, hat, hV, hb⟩
  have hat' := hat
  obtain ⟨vi', vb', he, ⟨p, c, hvi, _⟩, ⟨pz, cz, hvb, _⟩⟩ := hat'
  have e1 : vi = vi' := by injection he with he; injection he with he; injection he
  have e2 : vb = vb' := by injection he with he; injection he with he; injection he with _ he; injection he
  subst e1; subst e2; subst hvi; subst hvb
  exact ⟨p, c, pz, cz, V, rfl, hat, hV, hb⟩

theorem VolAt.items {w : World} {vi vb : Value} {V : Vol} (h : VolAt w (.agg #[vi, vb]) V) : ItemsAt w vi V.items := by
  obtain ⟨vi', vb', he, h1, _⟩ := h
  have e1 : vi = vi' := by injection he with he; injection he with he; injection he
  rw [e1]; exact h1
theorem VolAt.ints {w : World} {vi vb : Value} {V : Vol} (h : VolAt w (.agg #[vi, vb]) V) : IntsAt w vb V.blocks := by
  obtain ⟨vi', vb', he, _, h2⟩ := h
  have e2 : vb = vb' := by injection he with he; injection he with he; injection he with _ he; injection he
  rw [e2]; exact h2
end Go.Proofs.YtajjhjabehiikabDoor
