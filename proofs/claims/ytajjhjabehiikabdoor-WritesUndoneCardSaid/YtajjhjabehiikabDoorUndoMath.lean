/- Writing back what was read before: as plain data. No program's run. -/
import Derived.Test.YtajjhjabehiikabDoorReadMath
import Derived.Test.YtajjhjabehiikabDoorPure
namespace Go.Proofs.YtajjhjabehiikabDoor
open Go.RowKit

def backOf (V : Vol) (x : Wr) : Wr := ⟨x.block, rd V x.block.toNat⟩
/-- the first k writes turned -/
def midOf (V : Vol) (M : List Wr) (k : Nat) : List Wr := (M.take k).map (backOf V) ++ M.drop k
theorem mid_len (V : Vol) (M : List Wr) (k : Nat) : (midOf V M k).length = M.length := by
  simp [midOf]; omega
theorem mid_at {V : Vol} {M : List Wr} {k : Nat} {x : Wr} (hx : M[k]? = some x) : (midOf V M k)[k]? = some x := by
  have hk := (List.getElem?_eq_some_iff.1 hx).1
  unfold midOf
  rw [List.getElem?_append_right (by simp; omega), List.getElem?_drop]
  rw [show k + (k - ((M.take k).map (backOf V)).length) = k by simp; omega]
  exact hx
theorem mid_set {V : Vol} {M : List Wr} {k : Nat} {x : Wr} (hx : M[k]? = some x) : (midOf V M k).set k (backOf V x) = midOf V M (k + 1) := by
  obtain ⟨hk, he⟩ := List.getElem?_eq_some_iff.1 hx
  unfold midOf
  have hl : ((M.take k).map (backOf V)).length = k := by simp; omega
  rw [List.set_append_right _ _ (by omega), hl, Nat.sub_self, List.drop_eq_getElem_cons hk, List.set_cons_zero, take_snoc hx, List.map_append]
  simp
theorem mid_end (V : Vol) (M : List Wr) : midOf V M M.length = M.map (backOf V) := by simp [midOf]
theorem back_ok {V : Vol} (h : VOk V) {M : List Wr} (hM : WOk M V.blocks.length) : WOk (M.map (backOf V)) V.blocks.length := by
  refine ⟨by rw [List.length_map]; exact hM.len, fun y hy => ?_, ?_⟩
  · obtain ⟨x, hx, rfl⟩ := List.mem_map.1 hy
    have := hM.all x hx
    exact ⟨this.1, this.2.1, rd_size h _ (by omega)⟩
  · rw [List.pairwise_map]
    exact hM.up
theorem back_find (V : Vol) (M : List Wr) (b : Nat) : (M.map (backOf V)).find? (fun x => x.block == (b : Int)) = (M.find? (fun x => x.block == (b : Int))).map (backOf V) := by
  rw [List.find?_map]
  rfl
theorem undone {V V2 : Vol} (h : VOk V) (h16 : V.blocks.length ≤ 16) {M : List Wr} (hM : WOk M V.blocks.length) (h2 : V2 = (applied V M).1) :
    rds (applied V2 (M.map (backOf V))).1 = rds V := by
  subst h2
  obtain ⟨_, o2, l2, r2⟩ := apply_ok h h16 hM
  obtain ⟨_, o3, l3, r3⟩ := apply_ok o2 (by rw [l2]; exact h16) (W := M.map (backOf V)) (by rw [l2]; exact back_ok h hM)
  apply List.ext_getElem?
  intro b
  by_cases hb : b < V.blocks.length
  · rw [rds_at hb, rds_at (by rw [l3, l2]; exact hb), r3 b (by rw [l2]; exact hb), r2 b hb]
    unfold upd
    rw [back_find]
    cases hf : M.find? (fun x => x.block == (b : Int)) with
    | none => rfl
    | some x =>
      have := List.find?_some hf
      have hxb : x.block = (b : Int) := by simpa using this
      simp only [Option.map_some]
      show some (rd V x.block.toNat) = _
      rw [hxb, Int.toNat_natCast]
  · rw [List.getElem?_eq_none (by rw [rds_len, l3, l2]; omega), List.getElem?_eq_none (by rw [rds_len]; omega)]
theorem same_items {V V3 : Vol} (h : VOk V) (h3 : VOk V3) (he : rds V3 = rds V) : V3.items.length = V.items.length := by
  rw [← smap_items h, ← smap_items h3, he]

theorem wcells_set1 : ∀ (L : List Wr) (k : Nat) (x : Wr) (d : ByteArray), L[k]? = some x → (wcells L).set (k * 2 + 1) (.string d) = wcells (L.set k ⟨x.block, d⟩)
  | [], k, x, d, h => by simp at h
  | y :: L, 0, x, d, h => by simp at h; subst h; rfl
  | y :: L, k + 1, x, d, h => by
    have := wcells_set1 L k x d (by simpa using h)
    rw [show (k + 1) * 2 + 1 = (k * 2 + 1) + 2 by omega]
    simp only [wcells, List.set_cons_succ, this]
/-- 'back[k].Data = d' -/
theorem OwnW.setData {B g cap n : Nat} {e : TypeId} {L : List Wr} {W0 w : World} (h : OwnW B e (.slice (some ⟨g, 0, none⟩) n cap) L W0 w) {k : Nat} {x : Wr} (hx : L[k]? = some x) (d : ByteArray) :
    OwnW B e (.slice (some ⟨g, 0, none⟩) n cap) (L.set k ⟨x.block, d⟩) W0 (w.setCell ⟨g, k * 2 + 1, none⟩ (.string d)) := by
  obtain ⟨_, _, _, rfl⟩ := h.cell hx
  obtain ⟨h1, h2⟩ := h.1.stored (k * 2 + 1) (.string d)
  rw [wcells_set1 L k x d hx] at h1
  have hg : B ≤ g := (h.1.lt g rfl).1
  refine ⟨by rw [List.length_set]; exact h1, h.2.1.setCell (p := ⟨g, _, none⟩) hg _, Nat.le_trans h.2.2 h2.size⟩
end Go.Proofs.YtajjhjabehiikabDoor
