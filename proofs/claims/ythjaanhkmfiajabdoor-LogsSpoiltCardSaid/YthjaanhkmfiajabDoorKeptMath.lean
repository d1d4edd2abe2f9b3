/- Keeping on a list of items (P2.3): the smallest unused id and its place. No program's run; no condition but those in the statements. -/
import Derived.Test.YthjaanhkmfiajabDoorUsedMath
namespace Go.Proofs.YthjaanhkmfiajabDoor
open Go.RowKit

def posData (L : List It) (d : ByteArray) : Option Nat := L.findIdx? (fun x => decide (x.data = d))
theorem posData_at {L : List It} {d : ByteArray} {k : Nat} {x : It} (hk : L[k]? = some x) (hx : x.data = d) (h : ∀ (j : Nat) (y : It), j < k → L[j]? = some y → y.data ≠ d) : posData L d = some k := by
  unfold posData
  rw [List.findIdx?_eq_some_iff_getElem]
  obtain ⟨hlt, he⟩ := List.getElem?_eq_some_iff.1 hk
  refine ⟨hlt, by simp [he, hx], fun j hj => ?_⟩
  have := h j L[j] hj (List.getElem?_eq_getElem (by omega))
  simpa using this
theorem posData_none {L : List It} {d : ByteArray} (h : ∀ (j : Nat) (y : It), L[j]? = some y → y.data ≠ d) : posData L d = none := by
  unfold posData
  rw [List.findIdx?_eq_none_iff]
  intro y hy
  obtain ⟨j, hj⟩ := List.getElem?_of_mem hy
  simpa using h j y hj

/-- the smallest unused id, 24 if there is none -/
def freeId (L : List It) : Nat := ((List.range 25).find? (fun (n : Nat) => (pos L (n : Int)).isNone)).getD 24
theorem free_at {L : List It} {n : Nat} (hn : n ≤ 24) (hp : pos L (n : Int) = none) (h : ∀ j, j < n → ∃ k, pos L (j : Int) = some k) : freeId L = n := by
  unfold freeId
  have : (List.range 25).find? (fun (n : Nat) => (pos L (n : Int)).isNone) = some n := by
    rw [List.find?_range_eq_some]
    refine ⟨by simp [hp], by simp; omega, fun j hj => ?_⟩
    obtain ⟨k, hk⟩ := h j hj
    simp [hk]
  rw [this]; rfl

/-- P2.3: the items, the id and the error's number -/
def kept (L : List It) (d : ByteArray) : List It × Int × Int :=
  if mayB L = false then ([], 0, 7)
  else if 48 < d.size then ([], 0, 1)
  else match posData L d with
    | some k => if (used L (L[k]?.getD It.zero).id).2 ≠ 0 then ([], 0, (used L (L[k]?.getD It.zero).id).2) else ((used L (L[k]?.getD It.zero).id).1, (L[k]?.getD It.zero).id, 0)
    | none => if 23 < freeId L then ([], 0, 1)
      else (L.filter (fun x => decide (x.id < (freeId L : Int))) ++ [⟨(freeId L : Int), d, 1⟩] ++ L.filter (fun x => decide ((freeId L : Int) < x.id)), (freeId L : Int), 0)

def RetKept (M : List It) (id n : Int) (W0 : World) (e : Ending) (w' : World) : Prop := ∃ v, e = .returned (.tuple #[v, .int .i64 id, .int .i64 n]) ∧ OwnI W0.heap.size 33 v M W0 w'

theorem data_more {L : List It} {k : Nat} {x : It} {d : ByteArray} (h : ∀ (j : Nat) (y : It), j < k → L[j]? = some y → y.data ≠ d) (hx : L[k]? = some x) (hn : x.data ≠ d) : ∀ (j : Nat) (y : It), j < k + 1 → L[j]? = some y → y.data ≠ d := by
  intro j y hj hy
  by_cases hjk : j < k
  · exact h j y hjk hy
  · obtain rfl : j = k := by omega
    rw [hx] at hy; cases hy; exact hn

theorem used_more {L : List It} {n q : Nat} (h : ∀ j, j < n → ∃ k, pos L (j : Int) = some k) (hq : pos L (n : Int) = some q) : ∀ j, j < n + 1 → ∃ k, pos L (j : Int) = some k := by
  intro j hj
  by_cases hjn : j < n
  · exact h j hjn
  · obtain rfl : j = n := by omega
    exact ⟨q, hq⟩

/-- k is the first place whose id is not the place -/
def Gap (L : List It) (k : Nat) : Prop := k ≤ L.length ∧ (∀ (j : Nat) (y : It), j < k → L[j]? = some y → y.id = (j : Int)) ∧ ∀ x, L[k]? = some x → x.id ≠ (k : Int)

theorem id_ge {L : List It} (hm : mayB L = true) : ∀ (j : Nat) (y : It), L[j]? = some y → (j : Int) ≤ y.id
  | 0, y, hy => by have := (may_ok hm hy).1; omega
  | j + 1, y, hy => by
    have hj := (List.getElem?_eq_some_iff.1 hy).1
    have hp := List.getElem?_eq_getElem (l := L) (i := j) (by omega)
    have ih := id_ge hm j _ hp
    have ha := (may_apart hm (Nat.lt_succ_self j) hp hy).1
    omega
theorem id_up {L : List It} (hm : mayB L = true) {k : Nat} {x : It} (hx : L[k]? = some x) (hne : x.id ≠ (k : Int)) : ∀ (m : Nat) (z : It), L[k + m]? = some z → (k : Int) + 1 + m ≤ z.id
  | 0, z, hz => by
    rw [Nat.add_zero, hx] at hz; cases hz
    have := id_ge hm k x hx
    omega
  | m + 1, z, hz => by
    have hj := (List.getElem?_eq_some_iff.1 hz).1
    have hp := List.getElem?_eq_getElem (l := L) (i := k + m) (by omega)
    have ih := id_up hm hx hne m _ hp
    have ha := (may_apart hm (show k + m < k + (m + 1) by omega) hp hz).1
    omega
theorem gap_full {L : List It} (hm : mayB L = true) (hl : L.length = 24) {k : Nat} (hg : Gap L k) : k = 24 := by
  apply Classical.byContradiction
  intro hk
  have hk24 : k < 24 := by have := hg.1; omega
  have hx := List.getElem?_eq_getElem (l := L) (i := k) (by omega)
  have hz := List.getElem?_eq_getElem (l := L) (i := k + (23 - k)) (by omega)
  have h1 := id_up hm hx (hg.2.2 _ hx) (23 - k) _ hz
  have h2 := (may_ok hm hz).2.1
  omega
theorem gap_pos {L : List It} (hm : mayB L = true) {k : Nat} (hg : Gap L k) : pos L (k : Int) = none := by
  refine pos_none (fun j y hy he => ?_)
  by_cases h1 : j < k
  · have := hg.2.1 j y h1 hy; omega
  · by_cases h2 : j = k
    · subst h2; exact hg.2.2 y hy he
    · have := id_ge hm j y hy; omega
theorem gap_free {L : List It} (hm : mayB L = true) {k : Nat} (hg : Gap L k) : freeId L = k := by
  have hl := may_len hm
  refine free_at (by have := hg.1; omega) (gap_pos hm hg) (fun j hj => ?_)
  have hy := List.getElem?_eq_getElem (l := L) (i := j) (by have := hg.1; omega)
  refine ⟨j, pos_at hy (hg.2.1 j _ hj hy) (fun i z hi hz he => ?_)⟩
  have := hg.2.1 i z (by omega) hz
  omega
theorem gap_lower {L : List It} (hm : mayB L = true) {k : Nat} (hg : Gap L k) : L.filter (fun x => decide (x.id < (k : Int))) = L.take k := by
  have hk := hg.1
  have e : L.filter (fun x => decide (x.id < (k : Int))) = (L.take k ++ L.drop k).filter (fun x => decide (x.id < (k : Int))) := by rw [List.take_append_drop]
  rw [e, List.filter_append]
  have h1 : (L.take k).filter (fun x => decide (x.id < (k : Int))) = L.take k := by
    rw [List.filter_eq_self]
    intro y hy
    obtain ⟨i, hi⟩ := List.getElem?_of_mem hy
    have hil := (List.getElem?_eq_some_iff.1 hi).1
    simp at hil
    rw [List.getElem?_take_of_lt (by omega)] at hi
    have := hg.2.1 i y (by omega) hi
    simp; omega
  have h2 : (L.drop k).filter (fun x => decide (x.id < (k : Int))) = [] := by
    rw [List.filter_eq_nil_iff]
    intro y hy
    obtain ⟨i, hi⟩ := List.getElem?_of_mem hy
    rw [List.getElem?_drop] at hi
    have := id_ge hm _ y hi
    simp; omega
  rw [h1, h2, List.append_nil]
theorem gap_upper {L : List It} (hm : mayB L = true) {k : Nat} (hg : Gap L k) : L.filter (fun x => decide ((k : Int) < x.id)) = L.drop k := by
  have hk := hg.1
  have e : L.filter (fun x => decide ((k : Int) < x.id)) = (L.take k ++ L.drop k).filter (fun x => decide ((k : Int) < x.id)) := by rw [List.take_append_drop]
  rw [e, List.filter_append]
  have h1 : (L.take k).filter (fun x => decide ((k : Int) < x.id)) = [] := by
    rw [List.filter_eq_nil_iff]
    intro y hy
    obtain ⟨i, hi⟩ := List.getElem?_of_mem hy
    have hil := (List.getElem?_eq_some_iff.1 hi).1
    simp at hil
    rw [List.getElem?_take_of_lt (by omega)] at hi
    have := hg.2.1 i y (by omega) hi
    simp; omega
  have h2 : (L.drop k).filter (fun x => decide ((k : Int) < x.id)) = L.drop k := by
    rw [List.filter_eq_self]
    intro y hy
    obtain ⟨i, hi⟩ := List.getElem?_of_mem hy
    rw [List.getElem?_drop] at hi
    have := id_ge hm _ y hi
    by_cases h0 : i = 0
    · subst h0
      have := hg.2.2 y (by simpa using hi)
      simp; omega
    · simp; omega
  rw [h1, h2, List.nil_append]

/-- what add gives -/
def added (L : List It) (d : ByteArray) : List It × Int × Int :=
  if 23 < freeId L then ([], 0, 1)
  else (L.filter (fun x => decide (x.id < (freeId L : Int))) ++ [⟨(freeId L : Int), d, 1⟩] ++ L.filter (fun x => decide ((freeId L : Int) < x.id)), (freeId L : Int), 0)

theorem kept_new {L : List It} {d : ByteArray} (hm : mayB L = true) (hd : ¬ 48 < d.size) (hp : posData L d = none) : kept L d = added L d := by
  unfold kept added
  rw [if_neg (by simp [hm]), if_neg hd, hp]
theorem pos_of {L : List It} (hm : mayB L = true) {k : Nat} {x : It} (hx : L[k]? = some x) : pos L x.id = some k := by
  refine pos_at hx rfl (fun j y hj hy he => ?_)
  have := (may_apart hm hj hy hx).1
  omega
theorem kept_old {L : List It} {d : ByteArray} (hm : mayB L = true) (hd : ¬ 48 < d.size) {k : Nat} {x : It} (hp : posData L d = some k) (hx : L[k]? = some x) :
    kept L d = if 32 ≤ x.refs then ([], 0, 1) else (L.set k { x with refs := x.refs + 1 }, x.id, 0) := by
  unfold kept
  rw [if_neg (by simp [hm]), if_neg hd, hp]
  simp only [hx, Option.getD_some]
  have hu : used L x.id = if 32 ≤ x.refs then ([], 1) else (L.set k { x with refs := x.refs + 1 }, 0) := by
    unfold used
    rw [got_some hm (pos_of hm hx) hx, if_neg (by simp), pos_of hm hx]
  rw [hu]
  by_cases hr : 32 ≤ x.refs
  · simp [hr]
  · simp [hr]
theorem posData_lt {L : List It} {d : ByteArray} {k : Nat} (hp : posData L d = some k) : ∃ x, L[k]? = some x ∧ x.data = d := by
  unfold posData at hp
  rw [List.findIdx?_eq_some_iff_getElem] at hp
  obtain ⟨h, h2, _⟩ := hp
  exact ⟨L[k], List.getElem?_eq_getElem h, by simpa using h2⟩
theorem posData_no {L : List It} {d : ByteArray} (hp : posData L d = none) : ∀ (j : Nat) (y : It), j < L.length → L[j]? = some y → y.data ≠ d := by
  unfold posData at hp
  rw [List.findIdx?_eq_none_iff] at hp
  intro j y _ hy
  simpa using hp y (List.mem_of_getElem? hy)
end Go.Proofs.YthjaanhkmfiajabDoor
