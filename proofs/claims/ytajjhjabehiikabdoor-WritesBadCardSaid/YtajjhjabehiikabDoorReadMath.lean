/- What all blocks read, as a list; writes laid over it; the different nonempty data among it, counted by a map's datum. No program's run. -/
import Derived.Test.YtajjhjabehiikabDoorPure
import Derived.Test.YtajjhjabehiikabDoorRepoMap
namespace Go.Proofs.YtajjhjabehiikabDoor
open Go.RowKit Go.Maps

/-- what the blocks read -/
def rds (V : Vol) : List ByteArray := (List.range V.blocks.length).map (rd V)
theorem rds_len (V : Vol) : (rds V).length = V.blocks.length := by simp [rds]
theorem rds_at {V : Vol} {b : Nat} (h : b < V.blocks.length) : (rds V)[b]? = some (rd V b) := by simp [rds, h]
theorem rds_mem {V : Vol} {d : ByteArray} : d ∈ rds V ↔ ∃ b, b < V.blocks.length ∧ rd V b = d := by simp [rds]
theorem rd_size {V : Vol} (h : VOk V) (b : Nat) (hb : b < V.blocks.length) : (rd V b).size ≤ 48 := by
  obtain ⟨z, _, h1 | ⟨x, hx, _, hxd⟩⟩ := rd_is h hb
  · rw [h1.2]; decide
  · rw [← hxd]; exact (may_mem h.may hx).2.2.1

/-- writes laid over what was read -/
def ovr (D : List ByteArray) (W : List Wr) : List ByteArray := W.foldl (fun D x => D.set x.block.toNat x.data) D
theorem ovr_len : ∀ (W : List Wr) (D : List ByteArray), (ovr D W).length = D.length
  | [], _ => rfl
  | x :: W, D => by
    show (ovr (D.set x.block.toNat x.data) W).length = _
    rw [ovr_len W, List.length_set]
theorem ovr_snoc {W : List Wr} {k : Nat} {x : Wr} (hx : W[k]? = some x) (D : List ByteArray) : ovr D (W.take (k + 1)) = (ovr D (W.take k)).set x.block.toNat x.data := by
  unfold ovr
  rw [take_snoc hx, List.foldl_append]
  rfl
theorem ovr_at : ∀ (W : List Wr) (D : List ByteArray) (b : Nat), W.Pairwise (fun x y => x.block < y.block) → (∀ x ∈ W, 0 ≤ x.block) → b < D.length →
    (ovr D W)[b]? = match W.find? (fun x => x.block == (b : Int)) with
      | some x => some x.data
      | none => D[b]?
  | [], _, _, _, _, _ => rfl
  | x :: W, D, b, hp, h0, hb => by
    obtain ⟨h1, h2⟩ := List.pairwise_cons.1 hp
    have hx0 := h0 x (by simp)
    show (ovr (D.set x.block.toNat x.data) W)[b]? = _
    rw [ovr_at W _ b h2 (fun y hy => h0 y (by simp [hy])) (by rw [List.length_set]; exact hb)]
    by_cases hxb : x.block = (b : Int)
    · have hn : W.find? (fun y => y.block == (b : Int)) = none := by
        rw [List.find?_eq_none]
        intro y hy
        have := h1 y hy
        simp
        omega
      rw [hn, List.find?_cons_of_pos (by simpa using hxb)]
      have : x.block.toNat = b := by omega
      simp [this, hb]
    · rw [List.find?_cons_of_neg (by simpa using hxb)]
      have hne : x.block.toNat ≠ b := by omega
      cases W.find? (fun y => y.block == (b : Int)) with
      | some y => rfl
      | none => simp only; rw [List.getElem?_set_ne hne]
theorem ovr_applied {V : Vol} (h : VOk V) (h16 : V.blocks.length ≤ 16) {W : List Wr} (hW : WOk W V.blocks.length) : ovr (rds V) W = rds (applied V W).1 := by
  obtain ⟨_, _, h3, h4⟩ := apply_ok h h16 hW
  apply List.ext_getElem?
  intro b
  by_cases hb : b < V.blocks.length
  · rw [ovr_at W _ b hW.up (fun x hx => (hW.all x hx).1) (by rw [rds_len]; exact hb), rds_at hb, rds_at (by rw [h3]; exact hb), h4 b hb]
    unfold upd
    cases W.find? (fun x => x.block == (b : Int)) <;> rfl
  · rw [List.getElem?_eq_none (by rw [ovr_len, rds_len]; omega), List.getElem?_eq_none (by rw [rds_len, h3]; omega)]

/-- the map's datum after k rounds -/
def smap (D : List ByteArray) : Nat → DataW Unit
  | 0 => .map []
  | k + 1 => match D[k]? with
    | some d => if 0 < d.size then (smap D k).put (dkey d) (.lit (.bool true)) else smap D k
    | none => smap D k
theorem smap_succ {D : List ByteArray} {k : Nat} {d : ByteArray} (hd : D[k]? = some d) (h1 : 0 < d.size) : smap D (k + 1) = (smap D k).put (dkey d) (.lit (.bool true)) := by
  show (match D[k]? with | some d => if 0 < d.size then (smap D k).put (dkey d) (.lit (.bool true)) else smap D k | none => smap D k) = _
  rw [hd]
  simp only [if_pos h1]
theorem smap_skip {D : List ByteArray} {k : Nat} {d : ByteArray} (hd : D[k]? = some d) (h1 : ¬ 0 < d.size) : smap D (k + 1) = smap D k := by
  show (match D[k]? with | some d => if 0 < d.size then (smap D k).put (dkey d) (.lit (.bool true)) else smap D k | none => smap D k) = _
  rw [hd]
  simp only [if_neg h1]
theorem smap_tidy (D : List ByteArray) : ∀ k, k ≤ D.length → Tidy (smap D k)
  | 0, _ => tidy_empty
  | k + 1, hk => by
    have hd := List.getElem?_eq_getElem (l := D) (i := k) (by omega)
    have ih := smap_tidy D k (by omega)
    by_cases h1 : 0 < D[k].size
    · rw [smap_succ hd h1]; exact ih.put (dkey_is _) _
    · rw [smap_skip hd h1]; exact ih
open Classical in
theorem smap_keys {D : List ByteArray} : ∀ k, k ≤ D.length → ∃ K : List ByteArray, K.Nodup ∧ size (smap D k) = K.length ∧ (∀ y, has (smap D k) (dkey y) = decide (y ∈ K)) ∧ ∀ y, y ∈ K ↔ (y ∈ D.take k ∧ 0 < y.size)
  | 0, _ => ⟨[], List.nodup_nil, rfl, fun y => by simp [smap, has], fun y => by simp⟩
  | k + 1, hk => by
    obtain ⟨K, h1, h2, h3, h4⟩ := smap_keys (D := D) k (by omega)
    have hd := List.getElem?_eq_getElem (l := D) (i := k) (by omega)
    have hm : ∀ y, y ∈ D.take (k + 1) ↔ y ∈ D.take k ∨ y = D[k] := by
      intro y
      rw [take_snoc hd, List.mem_append, List.mem_singleton]
    by_cases e1 : 0 < D[k].size
    · rw [smap_succ hd e1]
      by_cases e2 : D[k] ∈ K
      · refine ⟨K, h1, ?_, fun y => ?_, fun y => ?_⟩
        · rw [size_put (smap_tidy D k (by omega)), h3, if_pos (by simpa using e2), h2]
        · by_cases e3 : y = D[k]
          · subst e3
            rw [has_put_same (smap_tidy D k (by omega)).isMap (dkey_is _)]
            exact (decide_eq_true e2).symm
          · rw [has_put_other (fun e => e3 (dkey_inj e)), h3]
        · rw [hm]
          constructor
          · intro a; exact ⟨Or.inl ((h4 y).1 a).1, ((h4 y).1 a).2⟩
          · rintro ⟨a | a, b⟩
            · exact (h4 y).2 ⟨a, b⟩
            · rw [a]; exact e2
      · refine ⟨D[k] :: K, List.nodup_cons.2 ⟨e2, h1⟩, ?_, fun y => ?_, fun y => ?_⟩
        · rw [size_put (smap_tidy D k (by omega)), h3, if_neg (by simpa using e2), h2]; rfl
        · by_cases e3 : y = D[k]
          · subst e3
            rw [has_put_same (smap_tidy D k (by omega)).isMap (dkey_is _)]
            simp
          · rw [has_put_other (fun e => e3 (dkey_inj e)), h3]
            simp [e3]
        · rw [hm, List.mem_cons, h4]
          constructor
          · rintro (a | ⟨a, b⟩)
            · exact ⟨Or.inr a, by rw [a]; exact e1⟩
            · exact ⟨Or.inl a, b⟩
          · rintro ⟨a | a, b⟩
            · exact Or.inr ⟨a, b⟩
            · exact Or.inl a
    · rw [smap_skip hd e1]
      refine ⟨K, h1, h2, h3, fun y => ?_⟩
      rw [h4, hm]
      constructor
      · rintro ⟨a, b⟩; exact ⟨Or.inl a, b⟩
      · rintro ⟨a | a, b⟩
        · exact ⟨a, b⟩
        · rw [a] at b; exact absurd b e1
open Classical in
theorem smap_items {V : Vol} (h : VOk V) : size (smap (rds V) (rds V).length) = V.items.length := by
  obtain ⟨K, h1, h2, _, h4⟩ := smap_keys (D := rds V) (rds V).length (Nat.le_refl _)
  rw [List.take_length] at h4
  rw [h2, items_count h h1 (fun d => by rw [h4, rds_mem]; exact And.comm)]
end Go.Proofs.YtajjhjabehiikabDoor
