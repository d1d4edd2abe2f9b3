/- Volumes as plain data: one drop, one keep, and all of a transaction's writes on a valid volume of at most sixteen blocks: it stays valid and reads as it should. No program's run; no condition but those in the statements. -/
import Derived.Test.YthjaanhkmfiajabDoorVolMath
namespace Go.Proofs.YthjaanhkmfiajabDoor
open Go.RowKit

theorem count_set (z v : Int) : ∀ (Z : List Int) (b : Nat), b < Z.length → (Z.set b v).count z + (if Z[b]? = some z then 1 else 0) = Z.count z + (if v = z then 1 else 0)
  | [], b, h => by simp at h
  | a :: Z, 0, _ => by
    simp only [List.set_cons_zero, List.count_cons, List.getElem?_cons_zero, Option.some.injEq, beq_iff_eq]
    omega
  | a :: Z, b + 1, h => by
    have ih := count_set z v Z b (by simpa using h)
    simp only [List.set_cons_succ, List.count_cons, List.getElem?_cons_succ]
    omega

theorem set_get {Z : List Int} {b : Nat} (hb : b < Z.length) (v : Int) : (Z.set b v)[b]? = some v := by simp [hb]
theorem set_other {Z : List Int} {b b' : Nat} (h : b' ≠ b) (v : Int) : (Z.set b v)[b']? = Z[b']? := by rw [List.getElem?_set_ne (Ne.symm h)]

/-! ### one drop -/
theorem dropped_eq {V : Vol} (h : VOk V) {b : Nat} {z : Int} (hz : V.blocks[b]? = some z) (h0 : 0 ≤ z) : (dropped V.items z).1 = V.items.filterMap (dropOne z) := by
  rcases h.blk z (List.mem_of_getElem? hz) with h1 | hx
  · omega
  · obtain ⟨k, hk⟩ := Option.isSome_iff_exists.1 (pos_mem.2 hx)
    obtain ⟨y, hy, _⟩ := pos_lt hk
    unfold dropped
    rw [got_some h.may hk hy, if_neg (by simp)]
theorem drop_from {z : Int} {x x' : It} (h : dropOne z x = some x') : x'.id = x.id ∧ x'.data = x.data ∧ x'.refs = (if x.id = z then x.refs - 1 else x.refs) ∧ 1 ≤ x'.refs := by
  unfold dropOne at h
  split at h
  · split at h
    · cases h
      rename_i h1 h2
      exact ⟨rfl, rfl, by rw [if_pos h1], by show 1 ≤ x.refs - 1; omega⟩
    · cases h
  · split at h
    · cases h
      rename_i h1 h2
      exact ⟨rfl, rfl, by rw [if_neg h1], by omega⟩
    · cases h
theorem drop_to {z : Int} {x : It} (h1 : 1 ≤ x.refs) (h : x.id ≠ z ∨ 2 ≤ x.refs) : ∃ x', dropOne z x = some x' := by
  unfold dropOne
  by_cases hz : x.id = z
  · rw [if_pos hz, if_pos (by omega)]
    exact ⟨_, rfl⟩
  · rw [if_neg hz, if_pos (by omega)]
    exact ⟨_, rfl⟩

theorem drop_ok {V : Vol} (h : VOk V) {b : Nat} {z : Int} (hz : V.blocks[b]? = some z) (h0 : 0 ≤ z) :
    VOk ⟨(dropped V.items z).1, V.blocks.set b (-1)⟩ ∧ RdIs ⟨(dropped V.items z).1, V.blocks.set b (-1)⟩ b ⟨#[]⟩ ∧
    ∀ (b' : Nat) (d : ByteArray), b' ≠ b → RdIs V b' d → RdIs ⟨(dropped V.items z).1, V.blocks.set b (-1)⟩ b' d := by
  have hb := (List.getElem?_eq_some_iff.1 hz).1
  rw [dropped_eq h hz h0]
  have hcz : (V.blocks.set b (-1)).count z + 1 = V.blocks.count z := by
    have := count_set z (-1) V.blocks b hb
    rw [if_pos hz, if_neg (by omega)] at this
    omega
  have hco : ∀ y : Int, y ≠ z → 0 ≤ y → (V.blocks.set b (-1)).count y = V.blocks.count y := by
    intro y hy hy0
    have := count_set y (-1) V.blocks b hb
    rw [if_neg (by rw [hz]; intro e; exact hy (Option.some.inj e).symm), if_neg (by omega)] at this
    omega
  -- whoever is still referred to stays
  have stay : ∀ x ∈ V.items, (∃ b' : Nat, b' ≠ b ∧ V.blocks[b']? = some x.id) → ∃ x' ∈ V.items.filterMap (dropOne z), x'.id = x.id ∧ x'.data = x.data := by
    intro x hx ⟨b', hne, hb'⟩
    have hm := may_mem h.may hx
    obtain ⟨x', hx'⟩ := drop_to (z := z) (x := x) hm.2.2.2.1 (by
      by_cases he : x.id = z
      · right
        have h1 : x.id ∈ V.blocks.set b (-1) := List.mem_of_getElem? (i := b') (by rw [set_other hne]; exact hb')
        have h2 : 0 < (V.blocks.set b (-1)).count x.id := List.count_pos_iff.2 h1
        have h3 := (h.use x hx).1
        rw [he] at h2 h3
        omega
      · exact Or.inl he)
    have hf := drop_from hx'
    exact ⟨x', List.mem_filterMap.2 ⟨x, hx, hx'⟩, hf.1, hf.2.1⟩
  refine ⟨⟨?_, ?_, ?_, ?_⟩, ⟨-1, set_get hb _, Or.inl ⟨rfl, rfl⟩⟩, ?_⟩
  · refine may_of (fun x' hx' => ?_) ?_
    · obtain ⟨x, hx, hd⟩ := List.mem_filterMap.1 hx'
      have hf := drop_from hd
      have hm := may_mem h.may hx
      refine okB_of ⟨by rw [hf.1]; exact hm.1, by rw [hf.1]; exact hm.2.1, by rw [hf.2.1]; exact hm.2.2.1, hf.2.2.2, ?_⟩
      rw [hf.2.2.1]; split <;> omega
    · refine List.Pairwise.filterMap _ (fun a a' ha c hc c' hc' => ?_) (may_pw h.may)
      have h1 := drop_from hc
      have h2 := drop_from hc'
      exact ⟨by rw [h1.1, h2.1]; exact ha.1, by rw [h1.2.1, h2.2.1]; exact ha.2⟩
  · simpa using h.len
  · intro y hy
    obtain ⟨b', hb'⟩ := List.getElem?_of_mem hy
    by_cases hne : b' = b
    · subst hne
      rw [set_get hb] at hb'
      exact Or.inl (Option.some.inj hb').symm
    · rw [set_other hne] at hb'
      rcases h.blk y (List.mem_of_getElem? hb') with h1 | ⟨x, hx, hid⟩
      · exact Or.inl h1
      · obtain ⟨x', hx', h1, _⟩ := stay x hx ⟨b', hne, by rw [hid]; exact hb'⟩
        exact Or.inr ⟨x', hx', by rw [h1]; exact hid⟩
  · intro x' hx'
    obtain ⟨x, hx, hd⟩ := List.mem_filterMap.1 hx'
    have hf := drop_from hd
    have hu := h.use x hx
    have hm := may_mem h.may hx
    refine ⟨?_, by rw [hf.2.1]; exact hu.2⟩
    show ((V.blocks.set b (-1)).count x'.id : Int) = x'.refs
    rw [hf.1, hf.2.2.1]
    by_cases he : x.id = z
    · rw [if_pos he, he]
      rw [he] at hu
      omega
    · rw [if_neg he, hco x.id he hm.1]
      exact hu.1
  · intro b' d hne ⟨y, hy, hd⟩
    refine ⟨y, by show (V.blocks.set b (-1))[b']? = _; rw [set_other hne]; exact hy, ?_⟩
    rcases hd with h1 | ⟨x, hx, hid, hxd⟩
    · exact Or.inl h1
    · obtain ⟨x', hx', h1, h2⟩ := stay x hx ⟨b', hne, by rw [hid]; exact hy⟩
      exact Or.inr ⟨x', hx', by rw [h1]; exact hid, by rw [h2]; exact hxd⟩

/-! ### one keep -/
theorem gap_ex (L : List It) : ∃ k, Gap L k := by
  have h : ∀ m, m ≤ L.length → (∃ k, Gap L k) ∨ ∀ (j : Nat) (y : It), j < m → L[j]? = some y → y.id = (j : Int) := by
    intro m
    induction m with
    | zero => intro _; exact Or.inr (fun j y hj => absurd hj (by omega))
    | succ m ih =>
      intro hm
      rcases ih (by omega) with h | h
      · exact Or.inl h
      · have hx := List.getElem?_eq_getElem (l := L) (i := m) (by omega)
        by_cases he : L[m].id = (m : Int)
        · right
          intro j y hj hy
          by_cases hjm : j < m
          · exact h j y hjm hy
          · obtain rfl : j = m := by omega
            rw [hx] at hy; cases hy; exact he
        · exact Or.inl ⟨m, by omega, h, fun x hx' => by rw [hx] at hx'; cases hx'; exact he⟩
  rcases h L.length (Nat.le_refl _) with h | h
  · exact h
  · exact ⟨L.length, Nat.le_refl _, h, fun x hx => by simp at hx⟩
theorem nodup_len : ∀ (A Z : List Int), A.Nodup → (∀ a ∈ A, a ∈ Z) → A.length ≤ Z.length
  | [], _, _, _ => by simp
  | a :: A, Z, hn, hs => by
    obtain ⟨h1, h2⟩ := List.nodup_cons.1 hn
    have ha := hs a (by simp)
    have ih := nodup_len A (Z.erase a) h2 (fun c hc => (List.mem_erase_of_ne (fun e => h1 (by rw [← e]; exact hc))).2 (hs c (by simp [hc])))
    rw [List.length_erase_of_mem ha] at ih
    have := List.length_pos_of_mem ha
    simp only [List.length_cons]
    omega
theorem items_le {V : Vol} (h : VOk V) : V.items.length ≤ V.blocks.length := by
  have := nodup_len (V.items.map It.id) V.blocks (by
    rw [List.nodup_iff_pairwise_ne, List.pairwise_map]
    exact (may_pw h.may).imp (fun ha => by have := ha.1; omega)) (fun a ha => by
    obtain ⟨x, hx, rfl⟩ := List.mem_map.1 ha
    have hu := (h.use x hx).1
    have hm := may_mem h.may hx
    exact List.count_pos_iff.1 (by omega))
  simpa using this

theorem set_as_map {L : List It} (hm : mayB L = true) {k : Nat} {x : It} (hx : L[k]? = some x) : L.set k { x with refs := x.refs + 1 } = L.map (fun y => if y.id = x.id then { y with refs := y.refs + 1 } else y) := by
  apply List.ext_getElem?
  intro i
  rw [List.getElem?_map]
  have hk := (List.getElem?_eq_some_iff.1 hx).1
  by_cases hik : i = k
  · subst hik
    rw [hx]
    simp [hk]
  · rw [List.getElem?_set_ne (Ne.symm hik)]
    cases hy : L[i]? with
    | none => rfl
    | some y =>
      have hne : y.id ≠ x.id := by
        rcases Nat.lt_or_gt_of_ne hik with hl | hl
        · have := (may_apart hm hl hy hx).1; omega
        · have := (may_apart hm hl hx hy).1; omega
      simp [hne]

theorem keep_any {V : Vol} (h : VOk V) {b : Nat} (hz : V.blocks[b]? = some (-1)) {d : ByteArray} (hd : 0 < d.size) (hd48 : d.size ≤ 48) (hk : (kept V.items d).2.2 = 0) :
    (kept V.items d).2.2 = 0 ∧ VOk ⟨(kept V.items d).1, V.blocks.set b (kept V.items d).2.1⟩ ∧ RdIs ⟨(kept V.items d).1, V.blocks.set b (kept V.items d).2.1⟩ b d ∧
    ∀ (b' : Nat) (e : ByteArray), b' ≠ b → RdIs V b' e → RdIs ⟨(kept V.items d).1, V.blocks.set b (kept V.items d).2.1⟩ b' e := by
  have hb := (List.getElem?_eq_some_iff.1 hz).1
  have hil := items_le h
  cases hp : posData V.items d with
  | some k =>
    obtain ⟨x, hx, hxd⟩ := posData_lt hp
    have hxm := List.mem_of_getElem? hx
    have hr : ¬ 32 ≤ x.refs := by
      intro hr
      rw [kept_old h.may (by omega) hp hx, if_pos hr] at hk
      cases hk
    clear hk
    have hx0 := (may_mem h.may hxm).1
    rw [kept_old h.may (by omega) hp hx, if_neg hr]
    simp only
    rw [set_as_map h.may hx]
    have hcx : (V.blocks.set b x.id).count x.id = V.blocks.count x.id + 1 := by
      have := count_set x.id x.id V.blocks b hb
      rw [hz, if_neg (by intro e; have := Option.some.inj e; omega), if_pos rfl] at this
      omega
    have hco : ∀ y : Int, y ≠ x.id → 0 ≤ y → (V.blocks.set b x.id).count y = V.blocks.count y := by
      intro y hy hy0
      have := count_set y x.id V.blocks b hb
      rw [hz, if_neg (by intro e; have := Option.some.inj e; omega), if_neg (Ne.symm hy)] at this
      omega
    have stay : ∀ y ∈ V.items, ∃ y' ∈ V.items.map (fun y => if y.id = x.id then { y with refs := y.refs + 1 } else y), y'.id = y.id ∧ y'.data = y.data := by
      intro y hy
      refine ⟨_, List.mem_map.2 ⟨y, hy, rfl⟩, ?_⟩
      split <;> exact ⟨rfl, rfl⟩
    have fromI : ∀ y, (if y.id = x.id then { y with refs := y.refs + 1 } else y : It).id = y.id ∧ (if y.id = x.id then { y with refs := y.refs + 1 } else y : It).data = y.data ∧ (if y.id = x.id then { y with refs := y.refs + 1 } else y : It).refs = if y.id = x.id then y.refs + 1 else y.refs := by
      intro y
      split <;> exact ⟨rfl, rfl, rfl⟩
    refine ⟨trivial, ⟨?_, by simpa using h.len, ?_, ?_⟩, ?_, ?_⟩
    · refine may_of (fun y' hy' => ?_) ?_
      · obtain ⟨y, hy, rfl⟩ := List.mem_map.1 hy'
        have hm := may_mem h.may hy
        obtain ⟨f1, f2, f3⟩ := fromI y
        refine okB_of ⟨by rw [f1]; exact hm.1, by rw [f1]; exact hm.2.1, by rw [f2]; exact hm.2.2.1, ?_, ?_⟩
        · rw [f3]; split <;> omega
        · rw [f3]
          split
          · rename_i he
            have : y = x := may_id h.may hy hxm he
            subst this; omega
          · omega
      · rw [List.pairwise_map]
        refine (may_pw h.may).imp (fun {a c} ha => ⟨?_, ?_⟩)
        · rw [(fromI a).1, (fromI c).1]; exact ha.1
        · rw [(fromI a).2.1, (fromI c).2.1]; exact ha.2
    · intro z hzm
      obtain ⟨b', hb'⟩ := List.getElem?_of_mem hzm
      by_cases hne : b' = b
      · subst hne
        rw [set_get hb] at hb'
        obtain ⟨y', hy', h1, _⟩ := stay x hxm
        exact Or.inr ⟨y', hy', by rw [h1]; exact Option.some.inj hb'⟩
      · rw [set_other hne] at hb'
        rcases h.blk z (List.mem_of_getElem? hb') with h1 | ⟨y, hy, hid⟩
        · exact Or.inl h1
        · obtain ⟨y', hy', h1, _⟩ := stay y hy
          exact Or.inr ⟨y', hy', by rw [h1]; exact hid⟩
    · intro y' hy'
      obtain ⟨y, hy, rfl⟩ := List.mem_map.1 hy'
      have hm := may_mem h.may hy
      have hu := h.use y hy
      obtain ⟨f1, f2, f3⟩ := fromI y
      refine ⟨?_, by rw [f2]; exact hu.2⟩
      show ((V.blocks.set b x.id).count _ : Int) = _
      rw [f1, f3]
      by_cases he : y.id = x.id
      · rw [if_pos he, he, hcx]
        rw [he] at hu
        omega
      · rw [if_neg he, hco y.id he hm.1]
        exact hu.1
    · obtain ⟨y', hy', h1, h2⟩ := stay x hxm
      exact ⟨x.id, set_get hb _, Or.inr ⟨y', hy', h1, by rw [h2]; exact hxd⟩⟩
    · intro b' e hne ⟨z, hz', hd'⟩
      refine ⟨z, by show (V.blocks.set b x.id)[b']? = _; rw [set_other hne]; exact hz', ?_⟩
      rcases hd' with h1 | ⟨y, hy, hid, hyd⟩
      · exact Or.inl h1
      · obtain ⟨y', hy', h1, h2⟩ := stay y hy
        exact Or.inr ⟨y', hy', by rw [h1]; exact hid, by rw [h2]; exact hyd⟩
  | none =>
    obtain ⟨n, hg⟩ := gap_ex V.items
    have hn : n ≤ 23 := by
      rw [kept_new h.may (by omega) hp] at hk
      unfold added at hk
      rw [gap_free h.may hg] at hk
      by_cases hc : n ≤ 23
      · exact hc
      · rw [if_pos (by omega)] at hk
        cases hk
    clear hk
    have hnone : ∀ y ∈ V.items, y.id ≠ (n : Int) := by
      intro y hy he
      have := pos_mem.2 ⟨y, hy, he⟩
      rw [gap_pos h.may hg] at this
      cases this
    rw [kept_new h.may (by omega) hp]
    unfold added
    rw [gap_free h.may hg, if_neg (by omega)]
    simp only
    obtain ⟨J, hJ⟩ : ∃ J, J = V.items.filter (fun x => decide (x.id < (n : Int))) ++ [⟨(n : Int), d, 1⟩] ++ V.items.filter (fun x => decide ((n : Int) < x.id)) := ⟨_, rfl⟩
    rw [← hJ]
    have memJ : ∀ y, y ∈ J ↔ y ∈ V.items ∨ y = ⟨(n : Int), d, 1⟩ := by
      intro y
      rw [hJ]
      simp only [List.mem_append, List.mem_filter, decide_eq_true_eq, List.mem_singleton]
      constructor
      · rintro ((⟨h1, _⟩ | h1) | ⟨h1, _⟩)
        · exact Or.inl h1
        · exact Or.inr h1
        · exact Or.inl h1
      · rintro (h1 | h1)
        · have := hnone y h1
          rcases Int.lt_or_gt_of_ne this with hl | hl
          · exact Or.inl (Or.inl ⟨h1, hl⟩)
          · exact Or.inr ⟨h1, hl⟩
        · exact Or.inl (Or.inr h1)
    have hno : ∀ y ∈ V.items, y.data ≠ d := by
      intro y hy
      obtain ⟨j, hj⟩ := List.getElem?_of_mem hy
      exact posData_no hp j y (List.getElem?_eq_some_iff.1 hj).1 hj
    have hcn0 : V.blocks.count (n : Int) = 0 := by
      rw [List.count_eq_zero]
      intro hm
      rcases h.blk _ hm with h1 | ⟨y, hy, hid⟩
      · omega
      · exact hnone y hy hid
    have hcn : (V.blocks.set b (n : Int)).count (n : Int) = 1 := by
      have := count_set (n : Int) (n : Int) V.blocks b hb
      rw [hz, if_neg (by intro e; have := Option.some.inj e; omega), if_pos rfl] at this
      omega
    have hco : ∀ y : Int, y ≠ (n : Int) → 0 ≤ y → (V.blocks.set b (n : Int)).count y = V.blocks.count y := by
      intro y hy hy0
      have := count_set y (n : Int) V.blocks b hb
      rw [hz, if_neg (by intro e; have := Option.some.inj e; omega), if_neg (Ne.symm hy)] at this
      omega
    refine ⟨trivial, ⟨?_, by simpa using h.len, ?_, ?_⟩, ?_, ?_⟩
    · refine may_of (fun y hy => ?_) ?_
      · rcases (memJ y).1 hy with h1 | h1
        · exact okB_of (may_mem h.may h1)
        · subst h1; exact okB_of ⟨by show (0 : Int) ≤ n; omega, by show (n : Int) ≤ 23; omega, hd48, by show (1 : Int) ≤ 1; omega, by show (1 : Int) ≤ 32; omega⟩
      · rw [hJ, List.pairwise_append, List.pairwise_append]
        have hpw := may_pw h.may
        have hah : ∀ y ∈ V.items, ∀ z ∈ V.items, y.id < z.id → Ahead y z := fun y hy z hz hl => ⟨hl, fun he => by have := may_data h.may hy hz he; subst this; omega⟩
        refine ⟨⟨hpw.filter _, by simp, ?_⟩, hpw.filter _, ?_⟩
        · intro y hy z hz'
          simp only [List.mem_filter, decide_eq_true_eq, List.mem_singleton] at hy hz'
          subst hz'
          exact ⟨hy.2, hno y hy.1⟩
        · intro y hy z hz'
          simp only [List.mem_append, List.mem_filter, decide_eq_true_eq, List.mem_singleton] at hy hz'
          rcases hy with hy | hy
          · exact hah y hy.1 z hz'.1 (by omega)
          · subst hy
            exact ⟨hz'.2, fun he => hno z hz'.1 he.symm⟩
    · intro z hzm
      obtain ⟨b', hb'⟩ := List.getElem?_of_mem hzm
      by_cases hne : b' = b
      · subst hne
        rw [set_get hb] at hb'
        exact Or.inr ⟨_, (memJ _).2 (Or.inr rfl), Option.some.inj hb'⟩
      · rw [set_other hne] at hb'
        rcases h.blk z (List.mem_of_getElem? hb') with h1 | ⟨y, hy, hid⟩
        · exact Or.inl h1
        · exact Or.inr ⟨y, (memJ _).2 (Or.inl hy), hid⟩
    · intro y hy
      show ((V.blocks.set b (n : Int)).count y.id : Int) = y.refs ∧ _
      rcases (memJ y).1 hy with h1 | h1
      · have hu := h.use y h1
        have hm := may_mem h.may h1
        exact ⟨by rw [hco y.id (hnone y h1) hm.1]; exact hu.1, hu.2⟩
      · subst h1
        exact ⟨by show ((V.blocks.set b (n : Int)).count (n : Int) : Int) = 1; rw [hcn]; rfl, hd⟩
    · exact ⟨(n : Int), set_get hb _, Or.inr ⟨_, (memJ _).2 (Or.inr rfl), rfl, rfl⟩⟩
    · intro b' e hne ⟨z, hz', hd'⟩
      refine ⟨z, by show (V.blocks.set b (n : Int))[b']? = _; rw [set_other hne]; exact hz', ?_⟩
      rcases hd' with h1 | ⟨y, hy, hid, hyd⟩
      · exact Or.inl h1
      · exact Or.inr ⟨y, (memJ _).2 (Or.inl hy), hid, hyd⟩
/-- at most sixteen blocks: keeping never refuses -/
theorem keep_zero {V : Vol} (h : VOk V) (h16 : V.blocks.length ≤ 16) {d : ByteArray} (hd48 : d.size ≤ 48) : (kept V.items d).2.2 = 0 := by
  have hil := items_le h
  cases hp : posData V.items d with
  | some k =>
    obtain ⟨x, hx, hxd⟩ := posData_lt hp
    have hr : ¬ 32 ≤ x.refs := by
      have := (h.use x (List.mem_of_getElem? hx)).1
      have := List.count_le_length (a := x.id) (l := V.blocks)
      omega
    rw [kept_old h.may (by omega) hp hx, if_neg hr]
  | none =>
    obtain ⟨n, hg⟩ := gap_ex V.items
    rw [kept_new h.may (by omega) hp]
    unfold added
    rw [gap_free h.may hg, if_neg (by have := hg.1; omega)]
theorem keep_ok {V : Vol} (h : VOk V) (h16 : V.blocks.length ≤ 16) {b : Nat} (hz : V.blocks[b]? = some (-1)) {d : ByteArray} (hd : 0 < d.size) (hd48 : d.size ≤ 48) :
    (kept V.items d).2.2 = 0 ∧ VOk ⟨(kept V.items d).1, V.blocks.set b (kept V.items d).2.1⟩ ∧ RdIs ⟨(kept V.items d).1, V.blocks.set b (kept V.items d).2.1⟩ b d ∧
    ∀ (b' : Nat) (e : ByteArray), b' ≠ b → RdIs V b' e → RdIs ⟨(kept V.items d).1, V.blocks.set b (kept V.items d).2.1⟩ b' e := keep_any h hz hd hd48 (keep_zero h h16 hd48)
end Go.Proofs.YthjaanhkmfiajabDoor
