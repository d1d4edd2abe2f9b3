/- Using and dropping on a list of items (P2.4), and what the answers are called. No program's run; no condition but those in the statements. -/
import Derived.Test.YthjaanhkmfiajabDoorRows
import Derived.Test.YthjaanhkmfiajabDoorItemsOwn
import Derived.KernelRfl
namespace Go.Proofs.YthjaanhkmfiajabDoor
open Go.RowKit

theorem ret_got {p : It × Int} {x : It} {n : Int} (h : p = (x, n)) : Ending.returned (.tuple #[.agg #[.int .i64 x.id, .string x.data, .int .i64 x.refs], .int .i64 n]) = .returned (.tuple #[p.1.val, .int .i64 p.2]) := by subst h; rfl

theorem Tryd.infoItem : (Tryd.prog.info? 33).map (fun i => (i.zero, i.size, i.bytes)) = some (some (.agg #[.int .i64 0, .string ⟨#[]⟩, .int .i64 0]), 3, 32) := by kernel_rfl

/-- P2.4: the items and the error's number -/
def used (L : List It) (id : Int) : List It × Int :=
  if (got L id).2 ≠ 0 then ([], (got L id).2)
  else if 32 ≤ (got L id).1.refs then ([], 1)
  else match pos L id with
    | some k => (L.set k { (got L id).1 with refs := (got L id).1.refs + 1 }, 0)
    | none => ([], 0)

def RetItems (M : List It) (n : Int) (W0 : World) (e : Ending) (w' : World) : Prop := ∃ v, e = .returned (.tuple #[v, .int .i64 n]) ∧ OwnI W0.heap.size 33 v M W0 w'

theorem got_cases (L : List It) (id : Int) : (∃ n : Int, (n == 0) = false ∧ got L id = (It.zero, n)) ∨ ∃ k x, L[k]? = some x ∧ pos L id = some k ∧ mayB L = true ∧ got L id = (x, 0) := by
  cases hm : mayB L with
  | false => exact Or.inl ⟨7, rfl, got_bad hm⟩
  | true =>
    cases hp : pos L id with
    | none => exact Or.inl ⟨6, rfl, got_none hm hp⟩
    | some k =>
      obtain ⟨x, hx, _⟩ := pos_lt hp
      exact Or.inr ⟨k, x, hx, rfl, rfl, got_some hm hp hx⟩

theorem may_len {L : List It} (h : mayB L = true) : L.length ≤ 24 := by
  simp only [mayB, Bool.and_eq_true, decide_eq_true_eq] at h
  exact h.1

theorem may_ok {L : List It} (h : mayB L = true) {k : Nat} {x : It} (hx : L[k]? = some x) : 0 ≤ x.id ∧ x.id ≤ 23 ∧ x.data.size ≤ 48 ∧ 1 ≤ x.refs ∧ x.refs ≤ 32 := by
  simp only [mayB, Bool.and_eq_true, decide_eq_true_eq, List.all_eq_true] at h
  have := h.2.1 x (List.mem_of_getElem? hx)
  simp only [okB, Bool.and_eq_true, decide_eq_true_eq] at this
  omega

def dropped (L : List It) (id : Int) : List It × Int :=
  if (got L id).2 ≠ 0 then ([], (got L id).2) else (L.filterMap (dropOne id), 0)

theorem fm_self {f : It → Option It} : ∀ l : List It, (∀ y ∈ l, f y = some y) → l.filterMap f = l
  | [], _ => rfl
  | y :: l, h => by
    rw [List.filterMap_cons, h y (by simp)]
    simp only
    rw [fm_self l (fun z hz => h z (by simp [hz]))]

theorem may_apart {L : List It} (h : mayB L = true) {i j : Nat} {y x : It} (hij : i < j) (hy : L[i]? = some y) (hx : L[j]? = some x) : Ahead y x := by
  apply Classical.byContradiction
  intro hn
  rw [may_pair hx hy hij hn] at h
  cases h

/-- dropping touches the one item alone -/
theorem drop_split {L : List It} {id : Int} {k : Nat} {x : It} (hm : mayB L = true) (hx : L[k]? = some x) (hid : x.id = id) :
    L.filterMap (dropOne id) = L.take k ++ (dropOne id x).toList ++ L.drop (k + 1) := by
  have hk := (List.getElem?_eq_some_iff.1 hx).1
  have hke := (List.getElem?_eq_some_iff.1 hx).2
  have e : L = L.take k ++ x :: L.drop (k + 1) := by rw [← hke, List.getElem_cons_drop, List.take_append_drop]
  have h1 : (L.take k).filterMap (dropOne id) = L.take k := by
    refine fm_self _ (fun y hy => ?_)
    obtain ⟨i, hi⟩ := List.getElem?_of_mem hy
    have hil := (List.getElem?_eq_some_iff.1 hi).1
    simp at hil
    rw [List.getElem?_take_of_lt (by omega)] at hi
    have ha := may_apart hm (by omega) hi hx
    have hok := may_ok hm hi
    unfold dropOne
    rw [if_neg (by have := ha.1; omega), if_pos (by omega)]
  have h2 : (L.drop (k + 1)).filterMap (dropOne id) = L.drop (k + 1) := by
    refine fm_self _ (fun y hy => ?_)
    obtain ⟨i, hi⟩ := List.getElem?_of_mem hy
    rw [List.getElem?_drop] at hi
    have ha := may_apart hm (by omega) hx hi
    have hok := may_ok hm hi
    unfold dropOne
    rw [if_neg (by have := ha.1; omega), if_pos (by omega)]
  conv => lhs; rw [e]
  rw [List.filterMap_append, h1, List.filterMap_cons, h2]
  cases hd : dropOne id x <;> simp
end Go.Proofs.YthjaanhkmfiajabDoor
