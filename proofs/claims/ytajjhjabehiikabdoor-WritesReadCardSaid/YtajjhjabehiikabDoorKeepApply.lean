/- volume.Apply and volume.Check as the statements call them: on their own volume, with their own writes. No condition but those in the statements. -/
import Derived.Test.YtajjhjabehiikabDoorKeepVol2
namespace Go.Proofs.YtajjhjabehiikabDoor
open Go.RowKit

def ApplyRet (V2 : Vol) (w : World) (e : Ending) (w' : World) : Prop :=
  ∃ p c q d, e = .returned (.tuple #[.agg #[.slice p V2.items.length c, .slice q V2.blocks.length d], .int .i64 0]) ∧ VolAt w' (.agg #[.slice p V2.items.length c, .slice q V2.blocks.length d]) V2 ∧ Below w.heap.size w w'
theorem Apply_ok {V V2 : Vol} {W : List Wr} (hV : VOk V) (h16 : V.blocks.length ≤ 16) (hW : WOk W V.blocks.length) (h2 : V2 = (applied V W).1) (v u : Value) (w : World) (h : VolAt w v V) (hw : WritesAt w u W) :
    Calls Tryd.prog 17 #[v, u] w (ApplyRet V2 w) := by
  subst h2
  obtain ⟨h1, h2, h3, _⟩ := apply_ok hV h16 hW
  refine (VApply_any v u V W w h hV.wide hw).mono ?_
  rw [h1]
  rintro e w' ⟨vi, vb, rfl, hown⟩
  obtain ⟨pi, ci, rfl⟩ := hown.1.isSlice
  obtain ⟨pb, cb, rfl⟩ := hown.2.1.isSlice
  exact ⟨_, _, _, _, rfl, hown.vol (by have := may_len h2.may; omega) (by have := h2.len; omega), hown.below⟩
theorem VCheck_ok {V : Vol} (hV : VOk V) (v : Value) (w : World) (h : VolAt w v V) : Calls Tryd.prog 20 #[v] w fun e w' => e = .returned (.int .i64 0) ∧ Below w.heap.size w w' := by
  have := VCheck_any v V w h hV.wide
  rw [vchk_ok hV] at this
  exact this

/-- what is told of the writes that Writes gives -/
def WritesRet2 (n : Nat) (w : World) (e : Ending) (w' : World) : Prop :=
  ∃ p c M, e = .returned (.slice p M.length c) ∧ WritesAt w' (.slice p M.length c) M ∧ WOk M n ∧ Below w.heap.size w w'
theorem Writes_at (v : Value) (L : List Rw) (w : World) (h : RawsAt w v L) (hok : ∀ r ∈ L, RwOk r) : Calls Tryd.prog 16 #[v, .int .i64 16] w (WritesRet2 16 w) := by
  refine (Writes_any v L 16 (by omega) w h hok).mono ?_
  rintro e w' ⟨v', M, rfl, hown, hW, _⟩
  obtain ⟨p, c, rfl⟩ := hown.isSlice
  exact ⟨p, c, M, rfl, hown.writes (by have := hW.len; omega), hW, hown.below⟩
end Go.Proofs.YtajjhjabehiikabDoor
