/- Items as Lean data: what a slice of items holds in memory, and the plain searches over it. No condition. -/
import Derived.WalkKit
namespace Go.Proofs.YthjaanhkmfiajabDoor
open Go.RowKit

structure It where
  id : Int
  data : ByteArray
  refs : Int

/-- the slice value v holds the items L -/
def ItemsAt (w : World) (v : Value) (L : List It) : Prop :=
  ∃ (p : Option Addr) (cap : Nat), v = .slice p L.length cap ∧ L.length ≤ 140737488355328 ∧ (p = none → cap = 0) ∧
    ∀ (i : Nat) (x : It), L[i]? = some x → ∃ b off, p = some ⟨b, off, none⟩ ∧ b < w.heap.size ∧
      w.cell? ⟨b, off + i * 3, none⟩ = some (.int .i64 x.id) ∧ w.cell? ⟨b, off + i * 3 + 1, none⟩ = some (.string x.data) ∧ w.cell? ⟨b, off + i * 3 + 2, none⟩ = some (.int .i64 x.refs)

theorem ItemsAt.keep {w w' : World} {v : Value} {L : List It} (h : ItemsAt w v L) (hb : Below w.heap.size w w') : ItemsAt w' v L := by
  obtain ⟨p, cap, hv, hl, hn, hc⟩ := h
  refine ⟨p, cap, hv, hl, hn, fun i x hx => ?_⟩
  obtain ⟨b, off, hp, hlt, h0, h1, h2⟩ := hc i x hx
  exact ⟨b, off, hp, Nat.lt_of_lt_of_le hlt hb.size, (hb.cell (p := ⟨b, _, none⟩) hlt).trans h0, (hb.cell (p := ⟨b, _, none⟩) hlt).trans h1, (hb.cell (p := ⟨b, _, none⟩) hlt).trans h2⟩

/-- an item as a value -/
def It.val (x : It) : Value := .agg #[.int .i64 x.id, .string x.data, .int .i64 x.refs]
def It.zero : It := ⟨0, ⟨#[]⟩, 0⟩

/-- the place of an id -/
def pos (L : List It) (id : Int) : Option Nat := L.findIdx? (fun x => x.id == id)
def posInt (L : List It) (id : Int) : Int := match pos L id with
  | some k => k
  | none => -1

theorem pos_at {L : List It} {id : Int} {k : Nat} {x : It} (hk : L[k]? = some x) (hx : x.id = id) (h : ∀ (j : Nat) (y : It), j < k → L[j]? = some y → y.id ≠ id) : pos L id = some k := by
  unfold pos
  rw [List.findIdx?_eq_some_iff_getElem]
  obtain ⟨hlt, he⟩ := List.getElem?_eq_some_iff.1 hk
  refine ⟨hlt, by simp [he, hx], fun j hj => ?_⟩
  have := h j L[j] hj (List.getElem?_eq_getElem (by omega))
  simpa using this

theorem pos_none {L : List It} {id : Int} (h : ∀ (j : Nat) (y : It), L[j]? = some y → y.id ≠ id) : pos L id = none := by
  unfold pos
  rw [List.findIdx?_eq_none_iff]
  intro y hy
  obtain ⟨j, hj⟩ := List.getElem?_of_mem hy
  simpa using h j y hj

theorem bytes_eq {a b : ByteArray} : (a.toList == b.toList) = decide (a = b) := by
  rw [ByteArray.toList_eq, ByteArray.toList_eq, Bool.eq_iff_iff]
  simp only [beq_iff_eq, decide_eq_true_eq]
  exact ⟨fun h => ByteArray.ext (Array.toList_inj.1 h), fun h => by rw [h]⟩

/-- one item alone -/
def okB (x : It) : Bool := decide (0 ≤ x.id ∧ x.id ≤ 23) && decide (x.data.size ≤ 48) && decide (1 ≤ x.refs ∧ x.refs ≤ 32)
/-- two items, the first ahead of the second -/
def Ahead (y x : It) : Prop := y.id < x.id ∧ y.data ≠ x.data
instance (y x : It) : Decidable (Ahead y x) := by unfold Ahead; infer_instance
/-- P2.1 -/
def mayB (L : List It) : Bool := decide (L.length ≤ 24) && (L.all okB && decide (L.Pairwise Ahead))

theorem may_item {L : List It} {i : Nat} {x : It} (hx : L[i]? = some x) (h : okB x = false) : mayB L = false := by
  have : L.all okB = false := by
    rw [List.all_eq_false]
    exact ⟨x, List.mem_of_getElem? hx, by simp [h]⟩
  simp [mayB, this]

theorem may_pair {L : List It} {i k : Nat} {x y : It} (hx : L[i]? = some x) (hy : L[k]? = some y) (hk : k < i) (h : ¬ Ahead y x) : mayB L = false := by
  have : ¬ L.Pairwise Ahead := by
    intro hp
    rw [List.pairwise_iff_getElem] at hp
    obtain ⟨h1, e1⟩ := List.getElem?_eq_some_iff.1 hx
    obtain ⟨h2, e2⟩ := List.getElem?_eq_some_iff.1 hy
    have := hp k i h2 h1 hk
    rw [e1, e2] at this
    exact h this
  simp [mayB, this]

theorem may_all {L : List It} (hA : ∀ (j : Nat) (x : It), j < L.length → L[j]? = some x → okB x = true)
    (hB : ∀ (i j : Nat) (y x : It), i < j → j < L.length → L[i]? = some y → L[j]? = some x → Ahead y x) : mayB L = decide (L.length ≤ 24) := by
  have h1 : L.all okB = true := by
    rw [List.all_eq_true]
    intro x hx
    obtain ⟨j, hj⟩ := List.getElem?_of_mem hx
    exact hA j x (List.getElem?_eq_some_iff.1 hj).1 hj
  have h2 : L.Pairwise Ahead := by
    rw [List.pairwise_iff_getElem]
    intro i j hi hj hij
    exact hB i j _ _ hij hj (List.getElem?_eq_getElem hi) (List.getElem?_eq_getElem hj)
  simp [mayB, h1, h2]

/-- P2.2: the item and the error's number -/
def got (L : List It) (id : Int) : It × Int :=
  if mayB L then match pos L id with
    | some k => (L[k]?.getD It.zero, 0)
    | none => (It.zero, 6)
  else (It.zero, 7)
theorem got_bad {L : List It} {id : Int} (h : mayB L = false) : got L id = (It.zero, 7) := by unfold got; rw [if_neg (by simp [h])]
theorem got_none {L : List It} {id : Int} (h : mayB L = true) (hp : pos L id = none) : got L id = (It.zero, 6) := by unfold got; rw [if_pos h, hp]
theorem got_some {L : List It} {id : Int} {k : Nat} {x : It} (h : mayB L = true) (hp : pos L id = some k) (hx : L[k]? = some x) : got L id = (x, 0) := by unfold got; rw [if_pos h, hp]; simp [hx]
theorem pos_lt {L : List It} {id : Int} {k : Nat} (hp : pos L id = some k) : ∃ x, L[k]? = some x ∧ x.id = id := by
  unfold pos at hp
  rw [List.findIdx?_eq_some_iff_getElem] at hp
  obtain ⟨h, h2, _⟩ := hp
  exact ⟨L[k], List.getElem?_eq_getElem h, by simpa using h2⟩
theorem posInt_some {L : List It} {id : Int} {k : Nat} (hp : pos L id = some k) : posInt L id = k := by unfold posInt; rw [hp]
theorem posInt_none {L : List It} {id : Int} (hp : pos L id = none) : posInt L id = -1 := by unfold posInt; rw [hp]

/-- P2.4: what dropping leaves of one item -/
def dropOne (id : Int) (x : It) : Option It :=
  if x.id = id then (if 0 < x.refs - 1 then some { x with refs := x.refs - 1 } else none) else (if 0 < x.refs then some x else none)
theorem take_snoc {α : Type} {L : List α} {k : Nat} {x : α} (hx : L[k]? = some x) : L.take (k + 1) = L.take k ++ [x] := by
  obtain ⟨h, e⟩ := List.getElem?_eq_some_iff.1 hx
  rw [List.take_succ_eq_append_getElem h, e]
theorem fm_len {α β : Type} (f : α → Option β) (L : List α) : (L.filterMap f).length ≤ L.length := List.length_filterMap_le f L

theorem seen_more {L : List It} {k : Nat} {x : It} {id : Int} (h : ∀ (j : Nat) (y : It), j < k → L[j]? = some y → y.id ≠ id) (hx : L[k]? = some x) (hn : x.id ≠ id) : ∀ (j : Nat) (y : It), j < k + 1 → L[j]? = some y → y.id ≠ id := by
  intro j y hj hy
  by_cases hjk : j < k
  · exact h j y hjk hy
  · obtain rfl : j = k := by omega
    rw [hx] at hy; cases hy; exact hn

def MayA (L : List It) (k : Nat) : Prop := ∀ (j : Nat) (x : It), j < k → L[j]? = some x → okB x = true
def MayB (L : List It) (k : Nat) : Prop := ∀ (i j : Nat) (y x : It), i < j → j < k → L[i]? = some y → L[j]? = some x → Ahead y x
def MayC (L : List It) (k : Nat) (x : It) : Prop := ∀ (i : Nat) (y : It), i < k → L[i]? = some y → Ahead y x

theorem MayA.more {L : List It} {k : Nat} {x : It} (h : MayA L k) (hx : L[k]? = some x) (hok : okB x = true) : MayA L (k + 1) := by
  intro j y hj hy
  by_cases hjk : j < k
  · exact h j y hjk hy
  · obtain rfl : j = k := by omega
    rw [hx] at hy; cases hy; exact hok
theorem MayB.more {L : List It} {k : Nat} {x : It} (h : MayB L k) (hx : L[k]? = some x) (hc : MayC L k x) : MayB L (k + 1) := by
  intro i j y z hij hj hy hz
  by_cases hjk : j < k
  · exact h i j y z hij hjk hy hz
  · obtain rfl : j = k := by omega
    rw [hx] at hz; cases hz; exact hc i y hij hy
theorem MayC.more {L : List It} {k : Nat} {x y : It} (h : MayC L k x) (hy : L[k]? = some y) (ha : Ahead y x) : MayC L (k + 1) x := by
  intro i z hi hz
  by_cases hik : i < k
  · exact h i z hik hz
  · obtain rfl : i = k := by omega
    rw [hy] at hz; cases hz; exact ha
end Go.Proofs.YthjaanhkmfiajabDoor
