/- Volumes as plain data: what applying writes does to them (P3.1, P3.3, P3.4), and that a small valid volume never refuses. No program's run; no condition but those in the statements. -/
import Derived.Test.YthjaanhkmfiajabDoorKeptMath
import Derived.Test.YthjaanhkmfiajabDoorInts
namespace Go.Proofs.YthjaanhkmfiajabDoor
open Go.RowKit

/-- a write -/
structure Wr where
  block : Int
  data : ByteArray

/-- P3.3, one write behind the preceding one -/
def wOne (n : Int) (prev : Option Int) (x : Wr) : Int :=
  if ¬ (0 ≤ x.block ∧ x.block ≤ n - 1) then 6 else if 48 < x.data.size then 1 else
    match prev with
    | some p => if x.block ≤ p then 4 else 0
    | none => 0
def wRest (n : Int) : Option Int → List Wr → Int
  | _, [] => 0
  | prev, x :: W => if wOne n prev x = 0 then wRest n (some x.block) W else wOne n prev x
/-- P3.3 -/
def wFault (W : List Wr) (n : Int) : Int := if 12 < W.length then 1 else wRest n none W

/-- P3.4 -/
def dropW (V : Vol) (x : Wr) : Vol := match V.blocks[x.block.toNat]? with
  | some z => if 0 ≤ z then ⟨(dropped V.items z).1, V.blocks.set x.block.toNat (-1)⟩ else V
  | none => V
def keepW (V : Vol) (x : Wr) : Vol × Int :=
  if 0 < x.data.size then
    if (kept V.items x.data).2.2 = 0 then (⟨(kept V.items x.data).1, V.blocks.set x.block.toNat (kept V.items x.data).2.1⟩, 0) else (⟨[], []⟩, (kept V.items x.data).2.2)
  else (V, 0)
def keepAll (V : Vol) : List Wr → Vol × Int
  | [] => (V, 0)
  | x :: W => if (keepW V x).2 = 0 then keepAll (keepW V x).1 W else (⟨[], []⟩, (keepW V x).2)
def applied (V : Vol) (W : List Wr) : Vol × Int :=
  if volB V = false then (⟨[], []⟩, 7)
  else if wFault W V.blocks.length ≠ 0 then (⟨[], []⟩, wFault W V.blocks.length)
  else keepAll (W.foldl dropW V) W

/-! ### what validity says of members -/
structure VOk (V : Vol) : Prop where
  may : mayB V.items = true
  len : 1 ≤ V.blocks.length ∧ V.blocks.length ≤ 32
  blk : ∀ z ∈ V.blocks, z = -1 ∨ ∃ x ∈ V.items, x.id = z
  use : ∀ x ∈ V.items, (V.blocks.count x.id : Int) = x.refs ∧ 0 < x.data.size

theorem pos_mem {L : List It} {z : Int} : (pos L z).isSome = true ↔ ∃ x ∈ L, x.id = z := by
  constructor
  · intro h
    obtain ⟨k, hk⟩ := Option.isSome_iff_exists.1 h
    obtain ⟨x, hx, hid⟩ := pos_lt hk
    exact ⟨x, List.mem_of_getElem? hx, hid⟩
  · intro ⟨x, hx, hid⟩
    cases hp : pos L z with
    | some k => rfl
    | none =>
      unfold pos at hp
      rw [List.findIdx?_eq_none_iff] at hp
      have := hp x hx
      simp [hid] at this
theorem may_mem {L : List It} (h : mayB L = true) {x : It} (hx : x ∈ L) : 0 ≤ x.id ∧ x.id ≤ 23 ∧ x.data.size ≤ 48 ∧ 1 ≤ x.refs ∧ x.refs ≤ 32 := by
  obtain ⟨j, hj⟩ := List.getElem?_of_mem hx
  exact may_ok h hj
theorem may_pw {L : List It} (h : mayB L = true) : L.Pairwise Ahead := by
  simp only [mayB, Bool.and_eq_true, decide_eq_true_eq] at h
  exact h.2.2
theorem may_id {L : List It} (h : mayB L = true) {x y : It} (hx : x ∈ L) (hy : y ∈ L) (he : x.id = y.id) : x = y := by
  obtain ⟨i, hi⟩ := List.getElem?_of_mem hx
  obtain ⟨j, hj⟩ := List.getElem?_of_mem hy
  rcases Nat.lt_trichotomy i j with hl | rfl | hl
  · have := (may_apart h hl hi hj).1; omega
  · rw [hi] at hj; exact Option.some.inj hj
  · have := (may_apart h hl hj hi).1; omega
theorem may_data {L : List It} (h : mayB L = true) {x y : It} (hx : x ∈ L) (hy : y ∈ L) (he : x.data = y.data) : x = y := by
  obtain ⟨i, hi⟩ := List.getElem?_of_mem hx
  obtain ⟨j, hj⟩ := List.getElem?_of_mem hy
  rcases Nat.lt_trichotomy i j with hl | rfl | hl
  · exact absurd he (may_apart h hl hi hj).2
  · rw [hi] at hj; exact Option.some.inj hj
  · exact absurd he.symm (may_apart h hl hj hi).2
theorem pw_ge {L : List It} (hok : ∀ x ∈ L, okB x = true) (hp : L.Pairwise Ahead) : ∀ (j : Nat) (y : It), L[j]? = some y → (j : Int) ≤ y.id
  | 0, y, hy => by
    have := hok y (List.mem_of_getElem? hy)
    simp only [okB, Bool.and_eq_true, decide_eq_true_eq] at this
    omega
  | j + 1, y, hy => by
    obtain ⟨hj, he⟩ := List.getElem?_eq_some_iff.1 hy
    have ih := pw_ge hok hp j _ (List.getElem?_eq_getElem (l := L) (i := j) (by omega))
    have ha := ((List.pairwise_iff_getElem.1 hp) j (j + 1) (by omega) hj (by omega)).1
    rw [he] at ha
    omega
theorem may_of {L : List It} (hok : ∀ x ∈ L, okB x = true) (hp : L.Pairwise Ahead) : mayB L = true := by
  have hl : L.length ≤ 24 := by
    by_cases h : L.length ≤ 24
    · exact h
    · have hx := List.getElem?_eq_getElem (l := L) (i := 24) (by omega)
      have h1 := pw_ge hok hp 24 _ hx
      have h2 := hok _ (List.mem_of_getElem? hx)
      simp only [okB, Bool.and_eq_true, decide_eq_true_eq] at h2
      omega
  simp only [mayB, Bool.and_eq_true, decide_eq_true_eq, List.all_eq_true]
  exact ⟨hl, hok, hp⟩
theorem okB_of {x : It} (h : 0 ≤ x.id ∧ x.id ≤ 23 ∧ x.data.size ≤ 48 ∧ 1 ≤ x.refs ∧ x.refs ≤ 32) : okB x = true := by
  simp only [okB, Bool.and_eq_true, decide_eq_true_eq]
  omega

theorem volB_iff {V : Vol} : volB V = true ↔ VOk V := by
  constructor
  · intro h
    simp only [volB, Bool.and_eq_true, decide_eq_true_eq, List.all_eq_true] at h
    obtain ⟨⟨⟨h1, h2⟩, h3⟩, h4⟩ := h
    refine ⟨h1, h2, fun z hz => ?_, fun x hx => ?_⟩
    · have := h3 z hz
      simp only [blockB, Bool.or_eq_true, Bool.and_eq_true, decide_eq_true_eq] at this
      rcases this with h | ⟨_, h⟩
      · exact Or.inl h
      · exact Or.inr (pos_mem.1 h)
    · have := h4 x hx
      simpa only [usesB, Bool.and_eq_true, decide_eq_true_eq] using this
  · intro h
    simp only [volB, Bool.and_eq_true, decide_eq_true_eq, List.all_eq_true]
    refine ⟨⟨⟨h.may, h.len⟩, fun z hz => ?_⟩, fun x hx => ?_⟩
    · simp only [blockB, Bool.or_eq_true, Bool.and_eq_true, decide_eq_true_eq]
      rcases h.blk z hz with h1 | ⟨x, hx, hid⟩
      · exact Or.inl h1
      · exact Or.inr ⟨by have := (may_mem h.may hx).1; omega, pos_mem.2 ⟨x, hx, hid⟩⟩
    · simp only [usesB, Bool.and_eq_true, decide_eq_true_eq]
      exact h.use x hx

/-- block b reads as d -/
def RdIs (V : Vol) (b : Nat) (d : ByteArray) : Prop := ∃ z, V.blocks[b]? = some z ∧ ((z = -1 ∧ d = ⟨#[]⟩) ∨ ∃ x ∈ V.items, x.id = z ∧ x.data = d)
def rd (V : Vol) (b : Nat) : ByteArray :=
  match V.blocks[b]? with
  | some z => if z < 0 then ⟨#[]⟩ else match pos V.items z with
    | some q => (V.items[q]?.getD It.zero).data
    | none => ⟨#[]⟩
  | none => ⟨#[]⟩
theorem rd_is {V : Vol} (h : VOk V) {b : Nat} (hb : b < V.blocks.length) : RdIs V b (rd V b) := by
  have hz := List.getElem?_eq_getElem (l := V.blocks) (i := b) hb
  refine ⟨_, hz, ?_⟩
  rcases h.blk _ (List.mem_of_getElem? hz) with h1 | ⟨x, hx, hid⟩
  · refine Or.inl ⟨h1, ?_⟩
    unfold rd
    rw [hz, h1]
    simp
  · right
    have hx0 := (may_mem h.may hx).1
    obtain ⟨k, hk⟩ := Option.isSome_iff_exists.1 (pos_mem.2 ⟨x, hx, hid⟩)
    obtain ⟨y, hy, hyid⟩ := pos_lt hk
    have hxy := may_id h.may hx (List.mem_of_getElem? hy) (by omega)
    subst hxy
    refine ⟨x, hx, hid, ?_⟩
    unfold rd
    rw [hz]
    simp only
    rw [if_neg (by omega), hk]
    simp [hy]
theorem rd_eq {V : Vol} (h : VOk V) {b : Nat} {d : ByteArray} (hr : RdIs V b d) : rd V b = d := by
  obtain ⟨z, hz, hd⟩ := hr
  unfold rd
  rw [hz]
  rcases hd with ⟨rfl, rfl⟩ | ⟨x, hx, hid, rfl⟩
  · simp
  · have hx0 := (may_mem h.may hx).1
    obtain ⟨k, hk⟩ := Option.isSome_iff_exists.1 (pos_mem.2 ⟨x, hx, hid⟩)
    obtain ⟨y, hy, hyid⟩ := pos_lt hk
    have hxy := may_id h.may hx (List.mem_of_getElem? hy) (by omega)
    subst hxy
    simp only
    rw [if_neg (by omega), hk]
    simp [hy]
end Go.Proofs.YthjaanhkmfiajabDoor
