/- Volumes as plain data: all of a transaction's writes on a valid volume of at most sixteen blocks; how many items such a volume has. No program's run; no condition but those in the statements. -/
import Derived.Test.YthjaanhkmfiajabDoorVolSteps
namespace Go.Proofs.YthjaanhkmfiajabDoor
open Go.RowKit

/-- writes that may be -/
structure WOk (W : List Wr) (n : Nat) : Prop where
  len : W.length ≤ 12
  all : ∀ x ∈ W, 0 ≤ x.block ∧ x.block < (n : Int) ∧ x.data.size ≤ 48
  up : W.Pairwise (fun x y => x.block < y.block)

theorem wRest_ok {n : Int} : ∀ (W : List Wr) (prev : Option Int), wRest n prev W = 0 →
    (∀ x ∈ W, 0 ≤ x.block ∧ x.block ≤ n - 1 ∧ x.data.size ≤ 48) ∧ W.Pairwise (fun x y => x.block < y.block) ∧ ∀ p, prev = some p → ∀ x ∈ W, p < x.block
  | [], prev, _ => ⟨by simp, List.Pairwise.nil, by simp⟩
  | x :: W, prev, h => by
    have h0 : wOne n prev x = 0 := by
      unfold wRest at h
      split at h
      · assumption
      · exact absurd h ‹_›
    have h1 : wRest n (some x.block) W = 0 := by
      unfold wRest at h
      rw [if_pos h0] at h
      exact h
    obtain ⟨i1, i2, i3⟩ := wRest_ok W (some x.block) h1
    have hx : (0 ≤ x.block ∧ x.block ≤ n - 1) ∧ x.data.size ≤ 48 ∧ ∀ p, prev = some p → p < x.block := by
      unfold wOne at h0
      split at h0
      · cases h0
      · rename_i hr
        split at h0
        · cases h0
        · refine ⟨Classical.not_not.1 hr, by omega, fun p hp => ?_⟩
          subst hp
          simp only at h0
          split at h0
          · cases h0
          · omega
    refine ⟨fun y hy => ?_, List.pairwise_cons.2 ⟨fun y hy => i3 _ rfl y hy, i2⟩, fun p hp y hy => ?_⟩
    · rcases List.mem_cons.1 hy with rfl | hy
      · exact ⟨hx.1.1, hx.1.2, hx.2.1⟩
      · exact i1 y hy
    · rcases List.mem_cons.1 hy with rfl | hy
      · exact hx.2.2 p hp
      · have := i3 _ rfl y hy
        have := hx.2.2 p hp
        omega
theorem wFault_ok {W : List Wr} {n : Nat} (h : wFault W (n : Int) = 0) : WOk W n := by
  unfold wFault at h
  split at h
  · cases h
  · obtain ⟨h1, h2, _⟩ := wRest_ok W none h
    exact ⟨by omega, fun x hx => ⟨(h1 x hx).1, by have := (h1 x hx).2.1; omega, (h1 x hx).2.2⟩, h2⟩
theorem wRest_of {n : Nat} : ∀ (W : List Wr) (prev : Option Int), (∀ x ∈ W, 0 ≤ x.block ∧ x.block < (n : Int) ∧ x.data.size ≤ 48) → W.Pairwise (fun x y => x.block < y.block) → (∀ p, prev = some p → ∀ x ∈ W, p < x.block) → wRest (n : Int) prev W = 0
  | [], _, _, _, _ => rfl
  | x :: W, prev, h1, h2, h3 => by
    obtain ⟨h4, h5⟩ := List.pairwise_cons.1 h2
    have hx := h1 x (by simp)
    have h0 : wOne (n : Int) prev x = 0 := by
      unfold wOne
      rw [if_neg (by omega), if_neg (by omega)]
      cases prev with
      | none => rfl
      | some p =>
        have := h3 p rfl x (by simp)
        simp only
        rw [if_neg (by omega)]
    unfold wRest
    rw [if_pos h0]
    exact wRest_of W _ (fun y hy => h1 y (by simp [hy])) h5 (fun p hp y hy => by cases hp; exact h4 y hy)
theorem wFault_of {W : List Wr} {n : Nat} (h : WOk W n) : wFault W (n : Int) = 0 := by
  unfold wFault
  rw [if_neg (by have := h.len; omega)]
  exact wRest_of W none h.all h.up (by simp)

/-! ### the first phase -/
theorem dropW_ok {V : Vol} (h : VOk V) {x : Wr} (hx : 0 ≤ x.block ∧ x.block < (V.blocks.length : Int)) :
    VOk (dropW V x) ∧ (dropW V x).blocks.length = V.blocks.length ∧ (dropW V x).blocks[x.block.toNat]? = some (-1) ∧
    (∀ (b : Nat) (d : ByteArray), x.block ≠ (b : Int) → RdIs V b d → RdIs (dropW V x) b d) ∧ ∀ b : Nat, V.blocks[b]? = some (-1) → (dropW V x).blocks[b]? = some (-1) := by
  have hb : x.block.toNat < V.blocks.length := by omega
  have hz := List.getElem?_eq_getElem (l := V.blocks) hb
  obtain ⟨z, hzz⟩ : ∃ z, z = V.blocks[x.block.toNat] := ⟨_, rfl⟩
  rw [← hzz] at hz
  unfold dropW
  rw [hz]
  simp only
  by_cases h0 : 0 ≤ z
  · rw [if_pos h0]
    obtain ⟨h1, _, h3⟩ := drop_ok h hz h0
    refine ⟨h1, by simp, set_get hb _, fun b d hne hr => h3 b d (by omega) hr, fun b hbb => ?_⟩
    by_cases hne : b = x.block.toNat
    · subst hne; exact set_get hb _
    · show (V.blocks.set _ _)[b]? = _
      rw [set_other hne]; exact hbb
  · rw [if_neg h0]
    have hz1 : z = -1 := by
      rcases h.blk z (List.mem_of_getElem? hz) with h1 | ⟨y, hy, hid⟩
      · exact h1
      · have := (may_mem h.may hy).1; omega
    exact ⟨h, rfl, by rw [hz, hz1], fun b d _ hr => hr, fun b hbb => hbb⟩
theorem dropAll_ok : ∀ (W : List Wr) (V : Vol), VOk V → (∀ x ∈ W, 0 ≤ x.block ∧ x.block < (V.blocks.length : Int)) →
    VOk (W.foldl dropW V) ∧ (W.foldl dropW V).blocks.length = V.blocks.length ∧ (∀ x ∈ W, (W.foldl dropW V).blocks[x.block.toNat]? = some (-1)) ∧
    (∀ (b : Nat) (d : ByteArray), (∀ x ∈ W, x.block ≠ (b : Int)) → RdIs V b d → RdIs (W.foldl dropW V) b d) ∧ ∀ b : Nat, V.blocks[b]? = some (-1) → (W.foldl dropW V).blocks[b]? = some (-1)
  | [], V, h, _ => ⟨h, rfl, by simp, fun _ _ _ hr => hr, fun _ hb => hb⟩
  | x :: W, V, h, hW => by
    obtain ⟨a1, a2, a3, a4, a5⟩ := dropW_ok h (hW x (by simp))
    obtain ⟨b1, b2, b3, b4, b5⟩ := dropAll_ok W (dropW V x) a1 (fun y hy => by rw [a2]; exact hW y (by simp [hy]))
    refine ⟨b1, b2.trans a2, fun y hy => ?_, fun b d hne hr => b4 b d (fun y hy => hne y (by simp [hy])) (a4 b d (hne x (by simp)) hr), fun b hb => b5 b (a5 b hb)⟩
    rcases List.mem_cons.1 hy with rfl | hy
    · exact b5 _ a3
    · exact b3 y hy

/-! ### the second phase -/
theorem empty_of {d : ByteArray} (h : ¬ 0 < d.size) : d = ⟨#[]⟩ := by
  apply ByteArray.ext
  have : d.data.size = 0 := by have : d.data.size = d.size := rfl; omega
  exact Array.eq_empty_of_size_eq_zero this
theorem keepAll_ok : ∀ (W : List Wr) (V : Vol), VOk V → V.blocks.length ≤ 16 → (∀ x ∈ W, 0 ≤ x.block ∧ x.block < (V.blocks.length : Int) ∧ x.data.size ≤ 48) → W.Pairwise (fun x y => x.block < y.block) →
    (∀ x ∈ W, V.blocks[x.block.toNat]? = some (-1)) →
    (keepAll V W).2 = 0 ∧ VOk (keepAll V W).1 ∧ (keepAll V W).1.blocks.length = V.blocks.length ∧ (∀ x ∈ W, RdIs (keepAll V W).1 x.block.toNat x.data) ∧
    ∀ (b : Nat) (d : ByteArray), (∀ x ∈ W, x.block ≠ (b : Int)) → RdIs V b d → RdIs (keepAll V W).1 b d
  | [], V, h, _, _, _, _ => ⟨rfl, h, rfl, by simp, fun _ _ _ hr => hr⟩
  | x :: W, V, h, h16, hW, hp, hm => by
    obtain ⟨h4, h5⟩ := List.pairwise_cons.1 hp
    have hx := hW x (by simp)
    have hz := hm x (by simp)
    have step : (keepW V x).2 = 0 ∧ VOk (keepW V x).1 ∧ (keepW V x).1.blocks.length = V.blocks.length ∧ RdIs (keepW V x).1 x.block.toNat x.data ∧
        (∀ (b : Nat) (d : ByteArray), b ≠ x.block.toNat → RdIs V b d → RdIs (keepW V x).1 b d) ∧ ∀ b : Nat, b ≠ x.block.toNat → (keepW V x).1.blocks[b]? = V.blocks[b]? := by
      unfold keepW
      by_cases hd : 0 < x.data.size
      · obtain ⟨k1, k2, k3, k4⟩ := keep_ok h h16 hz hd hx.2.2
        rw [if_pos hd, if_pos k1]
        exact ⟨rfl, k2, by simp, k3, k4, fun b hb => set_other hb _⟩
      · rw [if_neg hd]
        exact ⟨rfl, h, rfl, ⟨-1, hz, Or.inl ⟨rfl, empty_of hd⟩⟩, fun _ _ _ hr => hr, fun _ _ => rfl⟩
    obtain ⟨s1, s2, s3, s4, s5, s6⟩ := step
    have e : keepAll V (x :: W) = keepAll (keepW V x).1 W := by
      show (if (keepW V x).2 = 0 then _ else _) = _
      rw [if_pos s1]
    rw [e]
    obtain ⟨r1, r2, r3, r4, r5⟩ := keepAll_ok W (keepW V x).1 s2 (by rw [s3]; exact h16) (fun y hy => by rw [s3]; exact hW y (by simp [hy])) h5
      (fun y hy => by rw [s6 _ (by have := h4 y hy; have := hW y (by simp [hy]); omega)]; exact hm y (by simp [hy]))
    refine ⟨r1, r2, r3.trans s3, fun y hy => ?_, fun b d hne hr => r5 b d (fun y hy => hne y (by simp [hy])) (s5 b d (by have := hne x (by simp); omega) hr)⟩
    rcases List.mem_cons.1 hy with rfl | hy
    · exact r5 _ _ (fun z hz' => by have := h4 z hz'; omega) s4
    · exact r4 y hy

/-- what block b is behind writes -/
def upd (W : List Wr) (b : Nat) (d : ByteArray) : ByteArray := match W.find? (fun x => x.block == (b : Int)) with
  | some x => x.data
  | none => d
theorem apply_ok {V : Vol} (h : VOk V) (h16 : V.blocks.length ≤ 16) {W : List Wr} (hW : WOk W V.blocks.length) :
    (applied V W).2 = 0 ∧ VOk (applied V W).1 ∧ (applied V W).1.blocks.length = V.blocks.length ∧ ∀ b, b < V.blocks.length → rd (applied V W).1 b = upd W b (rd V b) := by
  have e : applied V W = keepAll (W.foldl dropW V) W := by
    unfold applied
    rw [if_neg (by rw [volB_iff.2 h]; simp), if_neg (by rw [wFault_of hW]; simp)]
  rw [e]
  obtain ⟨a1, a2, a3, a4, _⟩ := dropAll_ok W V h (fun x hx => ⟨(hW.all x hx).1, (hW.all x hx).2.1⟩)
  obtain ⟨b1, b2, b3, b4, b5⟩ := keepAll_ok W (W.foldl dropW V) a1 (by rw [a2]; exact h16) (fun x hx => by rw [a2]; exact hW.all x hx) hW.up a3
  refine ⟨b1, b2, b3.trans a2, fun b hb => rd_eq b2 ?_⟩
  unfold upd
  cases hf : W.find? (fun x => x.block == (b : Int)) with
  | some x =>
    have h1 := List.find?_some hf
    have h2 := List.mem_of_find?_eq_some hf
    have := b4 x h2
    have hxb : x.block = (b : Int) := by simpa using h1
    rw [hxb] at this
    simpa using this
  | none =>
    rw [List.find?_eq_none] at hf
    have hne : ∀ x ∈ W, x.block ≠ (b : Int) := fun x hx => by simpa using hf x hx
    exact b5 b _ hne (a4 b _ hne (rd_is h hb))
theorem apply_bad {V : Vol} (h : VOk V) {W : List Wr} (hW : wFault W V.blocks.length ≠ 0) : applied V W = (⟨[], []⟩, wFault W V.blocks.length) := by
  unfold applied
  rw [if_neg (by rw [volB_iff.2 h]; simp), if_pos hW]

/-! ### how many items -/
theorem nodup_le {α : Type} [DecidableEq α] : ∀ (A Z : List α), A.Nodup → (∀ a ∈ A, a ∈ Z) → A.length ≤ Z.length
  | [], _, _, _ => by simp
  | a :: A, Z, hn, hs => by
    obtain ⟨h1, h2⟩ := List.nodup_cons.1 hn
    have ha := hs a (by simp)
    have ih := nodup_le A (Z.erase a) h2 (fun c hc => (List.mem_erase_of_ne (fun e => h1 (by rw [← e]; exact hc))).2 (hs c (by simp [hc])))
    rw [List.length_erase_of_mem ha] at ih
    have := List.length_pos_of_mem ha
    simp only [List.length_cons]
    omega
theorem items_data {V : Vol} (h : VOk V) (d : ByteArray) : d ∈ V.items.map It.data ↔ 0 < d.size ∧ ∃ b, b < V.blocks.length ∧ rd V b = d := by
  constructor
  · intro hd
    obtain ⟨x, hx, rfl⟩ := List.mem_map.1 hd
    have hu := h.use x hx
    have hm := may_mem h.may hx
    refine ⟨hu.2, ?_⟩
    have hmem : x.id ∈ V.blocks := List.count_pos_iff.1 (by omega)
    obtain ⟨b, hb⟩ := List.getElem?_of_mem hmem
    exact ⟨b, (List.getElem?_eq_some_iff.1 hb).1, rd_eq h ⟨x.id, hb, Or.inr ⟨x, hx, rfl, rfl⟩⟩⟩
  · rintro ⟨hd, b, hb, rfl⟩
    obtain ⟨z, _, h1 | ⟨x, hx, _, hxd⟩⟩ := rd_is h hb
    · rw [h1.2] at hd
      exact absurd hd (by decide)
    · exact List.mem_map.2 ⟨x, hx, hxd⟩
theorem items_count {V : Vol} (h : VOk V) {D : List ByteArray} (hn : D.Nodup) (hD : ∀ d, d ∈ D ↔ 0 < d.size ∧ ∃ b, b < V.blocks.length ∧ rd V b = d) : V.items.length = D.length := by
  have hnd : (V.items.map It.data).Nodup := by
    rw [List.nodup_iff_pairwise_ne, List.pairwise_map]
    exact (may_pw h.may).imp (fun ha => ha.2)
  have h1 := nodup_le (V.items.map It.data) D hnd (fun d hd => (hD d).2 ((items_data h d).1 hd))
  have h2 := nodup_le D (V.items.map It.data) hn (fun d hd => (items_data h d).2 ((hD d).1 hd))
  simp only [List.length_map] at h1 h2
  omega

/-- P3.2: a new volume -/
def newV (n : Nat) : Vol := ⟨[], List.replicate n (-1)⟩
theorem new_ok {n : Nat} (h : 1 ≤ n ∧ n ≤ 32) : VOk (newV n) := by
  refine ⟨by show mayB [] = true; decide, by simpa [newV] using h, fun z hz => Or.inl ?_, fun x hx => ?_⟩
  · simp [newV] at hz; exact hz.2
  · simp [newV] at hx
theorem new_rd (n b : Nat) : rd (newV n) b = ⟨#[]⟩ := by
  unfold rd newV
  by_cases hb : b < n
  · simp [hb]
  · simp [hb]
/-! ### at most thirty-two blocks: what was not refused -/
theorem keepAll_any : ∀ (W : List Wr) (V : Vol), VOk V → (∀ x ∈ W, 0 ≤ x.block ∧ x.block < (V.blocks.length : Int) ∧ x.data.size ≤ 48) → W.Pairwise (fun x y => x.block < y.block) →
    (∀ x ∈ W, V.blocks[x.block.toNat]? = some (-1)) → (keepAll V W).2 = 0 → VOk (keepAll V W).1 ∧ (keepAll V W).1.blocks.length = V.blocks.length
  | [], V, h, _, _, _, _ => ⟨h, rfl⟩
  | x :: W, V, h, hW, hp, hm, h0 => by
    obtain ⟨h4, h5⟩ := List.pairwise_cons.1 hp
    have hx := hW x (by simp)
    have hz := hm x (by simp)
    have s1 : (keepW V x).2 = 0 := by
      by_cases hc : (keepW V x).2 = 0
      · exact hc
      · have e : keepAll V (x :: W) = (⟨[], []⟩, (keepW V x).2) := by
          show (if (keepW V x).2 = 0 then _ else _) = _
          rw [if_neg hc]
        rw [e] at h0
        exact absurd h0 hc
    have step : VOk (keepW V x).1 ∧ (keepW V x).1.blocks.length = V.blocks.length ∧ ∀ b : Nat, b ≠ x.block.toNat → (keepW V x).1.blocks[b]? = V.blocks[b]? := by
      unfold keepW at s1 ⊢
      by_cases hd : 0 < x.data.size
      · rw [if_pos hd] at s1 ⊢
        by_cases hk : (kept V.items x.data).2.2 = 0
        · obtain ⟨_, k2, _, _⟩ := keep_any h hz hd hx.2.2 hk
          rw [if_pos hk]
          exact ⟨k2, by simp, fun b hb => set_other hb _⟩
        · rw [if_neg hk] at s1
          exact absurd s1 hk
      · rw [if_neg hd]
        exact ⟨h, rfl, fun _ _ => rfl⟩
    obtain ⟨s2, s3, s6⟩ := step
    have e : keepAll V (x :: W) = keepAll (keepW V x).1 W := by
      show (if (keepW V x).2 = 0 then _ else _) = _
      rw [if_pos s1]
    rw [e] at h0 ⊢
    obtain ⟨r2, r3⟩ := keepAll_any W (keepW V x).1 s2 (fun y hy => by rw [s3]; exact hW y (by simp [hy])) h5
      (fun y hy => by rw [s6 _ (by have := h4 y hy; have := hW y (by simp [hy]); omega)]; exact hm y (by simp [hy])) h0
    exact ⟨r2, r3.trans s3⟩
/-- what was applied is valid -/
theorem apply_valid {V : Vol} {W : List Wr} (h : VOk V) (h0 : (applied V W).2 = 0) : VOk (applied V W).1 ∧ (applied V W).1.blocks.length = V.blocks.length ∧ WOk W V.blocks.length := by
  by_cases hw : wFault W V.blocks.length = 0
  · have hW := wFault_ok hw
    have e : applied V W = keepAll (W.foldl dropW V) W := by
      unfold applied
      rw [if_neg (by rw [volB_iff.2 h]; simp), if_neg (by rw [hw]; simp)]
    rw [e] at h0 ⊢
    obtain ⟨a1, a2, a3, a4, _⟩ := dropAll_ok W V h (fun x hx => ⟨(hW.all x hx).1, (hW.all x hx).2.1⟩)
    obtain ⟨b2, b3⟩ := keepAll_any W (W.foldl dropW V) a1 (fun x hx => by rw [a2]; exact hW.all x hx) hW.up a3 h0
    exact ⟨b2, b3.trans a2, hW⟩
  · rw [apply_bad h hw] at h0
    exact absurd h0 hw
end Go.Proofs.YthjaanhkmfiajabDoor
