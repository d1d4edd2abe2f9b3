/- slices.Clone at writes: by the shelf's contract. Condition: at most twelve. -/
import Derived.Test.YtajjhjabehiikabDoorKeepApply
namespace Go.Proofs.YtajjhjabehiikabDoor
open Go Go.RowKit

theorem CloneW_any (p : Option Addr) (cap : Nat) (M : List Wr) (w : World) (h : WritesAt w (.slice p M.length cap) M) (hl : M.length ≤ 12) (hp : p = none ∨ ∃ b, p = some ⟨b, 0, none⟩) :
    Calls Tryd.prog 21 #[.slice p M.length cap] w fun e w' => ∃ v', e = .returned v' ∧ OwnW w.heap.size 48 v' M w w' := by
  obtain ⟨i0, hi, hz0, hz1, hz2⟩ := info_parts infoWrite
  obtain ⟨p', cap', he, _, hn, hc⟩ := h
  cases he
  rcases hp with rfl | ⟨b, rfl⟩
  · have hM : M = [] := by
      cases M with
      | nil => rfl
      | cons y M => obtain ⟨_, _, hp, _⟩ := hc 0 y rfl; cases hp
    subst hM
    refine (AnyE.slices_Clone_nil Tryd.cloneW 0 cap w).mono ?_
    rintro e w' ⟨rfl, rfl⟩
    exact ⟨_, rfl, OwnW.nil (Below.refl _ _) (Nat.le_refl _)⟩
  · refine (AnyE.slices_Clone Tryd.cloneW i0 _ 2 24 hi hz0 hz1 hz2 rfl (by decide) Tryd.sizeOf48 b 0 M.length cap (wcells M) w (wcells_length M) (by unfold maxLen; omega) (by omega) ?_ (wcells_one M)).mono ?_
    · intro j u hj
      have hjl := (List.getElem?_eq_some_iff.1 hj).1
      rw [wcells_length] at hjl
      obtain ⟨q, r, hr, hjq⟩ : ∃ q r, r < 2 ∧ j = q * 2 + r := ⟨j / 2, j % 2, by omega, by omega⟩
      have hq : q < M.length := by omega
      obtain ⟨b', off', hp, _, c0, c1⟩ := hc q M[q] (List.getElem?_eq_getElem hq)
      cases hp
      obtain ⟨d0, d1⟩ := wcells_at M q M[q] (List.getElem?_eq_getElem hq)
      subst hjq
      match r, hr with
      | 0, _ => rw [← hj]; exact c0.trans d0.symm
      | 1, _ => rw [← hj, ← Nat.add_assoc]; exact c1.trans d1.symm
    · rintro e w' ⟨v', rfl, ho, _, hb⟩
      exact ⟨v', rfl, ho, hb, hb.size⟩

/-- Writes once more: where its slice lies -/
def WritesRet3 (n : Nat) (w : World) (e : Ending) (w' : World) : Prop :=
  ∃ p c M, e = .returned (.slice p M.length c) ∧ WritesAt w' (.slice p M.length c) M ∧ WOk M n ∧ (p = none ∨ ∃ b, p = some ⟨b, 0, none⟩) ∧ Below w.heap.size w w'
theorem Writes_at3 (v : Value) (L : List Rw) (w : World) (h : RawsAt w v L) (hok : ∀ r ∈ L, RwOk r) : Calls Tryd.prog 16 #[v, .int .i64 16] w (WritesRet3 16 w) := by
  refine (Writes_any v L 16 (by omega) w h hok).mono ?_
  rintro e w' ⟨v', M, rfl, hown, hW, _⟩
  have hwr := hown.writes (by have := hW.len; omega)
  have hb := hown.below
  rcases hown.1.2 with ⟨rfl, hn⟩ | ⟨g, cap, _, rfl, _⟩
  · exact ⟨none, 0, M, by rw [hn], by rw [hn]; exact hwr, hW, .inl rfl, hb⟩
  · exact ⟨_, cap, M, rfl, hwr, hW, .inr ⟨g, rfl⟩, hb⟩
end Go.Proofs.YtajjhjabehiikabDoor
