/- strings.Join of transactions' records, with nothing between them: the log's bytes. Condition: the bytes' number. -/
import Derived.Test.YthjaanhkmfiajabDoorRecords
import Derived.Test.YthjaanhkmfiajabDoorShelf
namespace Go.Proofs.YthjaanhkmfiajabDoor
open Go.RowKit

/-- the log of transactions -/
def allB (D : List (List Wr)) : ByteArray := ⟨(LM.bytesOf D).toArray⟩
theorem allB_list (D : List (List Wr)) : (allB D).data.toList = LM.bytesOf D := by simp [allB]
theorem allB_size (D : List (List Wr)) : (allB D).size = (LM.bytesOf D).length := by simp [allB, ByteArray.size]
theorem join_empty : ∀ xs : List (List UInt8), Lib.join xs [] = xs.flatten
  | [] => rfl
  | x :: r => by
    rw [Lib.join_cons]
    unfold Lib.joinTail
    simp
theorem join_recs (D : List (List Wr)) : Lib.join ((D.map recB).map (·.data.toList)) [] = LM.bytesOf D := by
  rw [join_empty, List.map_map]
  unfold LM.bytesOf
  rw [List.flatMap_def]
  congr 1
theorem Join_any (v : Value) (D : List (List Wr)) (w : World) (h : StrsAt w v (D.map recB)) (hc : ∃ p c, v = .slice p (D.map recB).length c ∧ (D.map recB).length ≤ c) (hl : (LM.bytesOf D).length ≤ 140737488355328) :
    Calls Tryd.prog 27 #[v, .string ⟨#[]⟩] w fun e w' => e = .returned (.string (allB D)) ∧ Below w.heap.size w w' := by
  obtain ⟨p, cap, rfl, hlen, _, hcell⟩ := h
  obtain ⟨p', c', he, hcap⟩ := hc
  cases he
  cases hD : D with
  | nil =>
    subst hD
    refine (Tryd.strings_Join_none p cap ⟨#[]⟩ w).mono ?_
    rintro e w' ⟨rfl, rfl⟩
    exact ⟨rfl, Below.refl _ _⟩
  | cons W D' =>
    obtain ⟨b, off, hp, hb, _⟩ := hcell 0 (recB W) (by rw [hD]; rfl)
    subst hp
    rw [← hD]
    have hj := join_recs D
    refine (Tryd.strings_Join b off cap (D.map recB) ⟨#[]⟩ w (fun j x hx => ?_) hb hlen hcap (by rw [show (⟨#[]⟩ : ByteArray).data.toList = [] from rfl, hj]; exact hl)).mono ?_
    · obtain ⟨b2, off2, hp2, _, c0⟩ := hcell j x hx
      cases hp2
      exact c0
    · rintro e w' ⟨rfl, hb'⟩
      refine ⟨?_, hb'⟩
      rw [show (⟨#[]⟩ : ByteArray).data.toList = [] from rfl, hj]
      rfl
end Go.Proofs.YthjaanhkmfiajabDoor
