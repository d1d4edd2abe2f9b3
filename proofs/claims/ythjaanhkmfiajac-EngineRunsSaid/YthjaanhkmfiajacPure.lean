/- The plain mathematics of items, volumes, writes, logs and engines, and rows that a call owns: texts merged into one. No condition but those in the statements. -/
import Derived.WalkKit
import Derived.Deep.Draws
import Derived.Laws.AppendOwnNone
import Derived.Test.YthjaanhkmfiajacRows
import Derived.KernelRfl
import Derived.Deep.RegionLaw
import Derived.Lib.Hide
import Derived.BigQuiet
import Derived.BigRegion
import Derived.IntWalk
import Derived.Laws.CopyRow
import Derived.Laws.CopyOwn
import Derived.Lib.SliceRun
/- Small lemmas that all texts share. No condition. -/
namespace Go.Proofs.Ythjaanhkmfiajac
open Go.RowKit

theorem below_dr {B : Nat} {a w : World} (h : Below B a w) (n : Nat) : Below B a (w.drewN n) := ⟨h.os, h.tape, h.output, h.size, h.block⟩
theorem below_then {w w1 w2 : World} (h : Below w.heap.size w w1) (h2 : Below w1.heap.size w1 w2) : Below w.heap.size w w2 := h.trans (h2.mono h.size)
theorem below_alloc {w w1 : World} (h : Below w.heap.size w w1) (o : Obj) : Below w.heap.size w (w1.alloc o) := h.alloc h.size o
theorem ret_nat {k : IntKind} {a b : Nat} (h : a = b) : Ending.returned (.int k (a : Int)) = .returned (.int k (b : Int)) := by rw [h]
theorem ret_int {k : IntKind} {a b : Int} (h : a = b) : Ending.returned (.int k a) = .returned (.int k b) := by rw [h]
theorem ret_bool {a b : Bool} (h : a = b) : Ending.returned (.bool a) = .returned (.bool b) := by rw [h]

/-- the block of three cells that stood there before a call stands there behind it -/
theorem blk3 {w w1 : World} {a b c : Value} {T : TypeId} (hb : Below (w.alloc (.cells #[a, b, c] T)).heap.size (w.alloc (.cells #[a, b, c] T)) w1) :
    w1.cell? ⟨w.heap.size, 0, none⟩ = some a ∧ w1.cell? ⟨w.heap.size, 1, none⟩ = some b ∧ w1.cell? ⟨w.heap.size, 2, none⟩ = some c ∧
    w1.frozen? ⟨w.heap.size, 0, none⟩ = false ∧ w1.frozen? ⟨w.heap.size, 1, none⟩ = false ∧ w1.frozen? ⟨w.heap.size, 2, none⟩ = false ∧ w.heap.size < w1.heap.size := by
  have hlt : w.heap.size < (w.alloc (.cells #[a, b, c] T)).heap.size := by simp
  have hg : w1.heap[w.heap.size]? = some (.cells #[a, b, c] T (0, 0)) := by
    rw [hb.block _ hlt]
    show (w.heap.push _)[w.heap.size]? = _
    simp
  refine ⟨?_, ?_, ?_, ?_, ?_, ?_, Nat.lt_of_lt_of_le hlt hb.size⟩ <;> simp [World.cell?, World.frozen?, hg]

/-- the same of a block of two cells -/
theorem blk2 {w w1 : World} {a b : Value} {T : TypeId} (hb : Below (w.alloc (.cells #[a, b] T)).heap.size (w.alloc (.cells #[a, b] T)) w1) :
    w1.cell? ⟨w.heap.size, 0, none⟩ = some a ∧ w1.cell? ⟨w.heap.size, 1, none⟩ = some b ∧
    w1.frozen? ⟨w.heap.size, 0, none⟩ = false ∧ w1.frozen? ⟨w.heap.size, 1, none⟩ = false ∧ w.heap.size < w1.heap.size := by
  have hlt : w.heap.size < (w.alloc (.cells #[a, b] T)).heap.size := by simp
  have hg : w1.heap[w.heap.size]? = some (.cells #[a, b] T (0, 0)) := by
    rw [hb.block _ hlt]
    show (w.heap.push _)[w.heap.size]? = _
    simp
  refine ⟨?_, ?_, ?_, ?_, Nat.lt_of_lt_of_le hlt hb.size⟩ <;> simp [World.cell?, World.frozen?, hg]

theorem below_box {w w1 : World} {o : Obj} (hb : Below (w.alloc o).heap.size (w.alloc o) w1) : Below w.heap.size w w1 := ((Below.refl _ _).alloc (Nat.le_refl _) o).trans (hb.mono (by simp))
theorem below_set3 {w w1 : World} (hb : Below w.heap.size w w1) (a b c : Value) : Below w.heap.size w (((w1.setCell ⟨w.heap.size, 0, none⟩ a).setCell ⟨w.heap.size, 1, none⟩ b).setCell ⟨w.heap.size, 2, none⟩ c) :=
  ((hb.setCell (p := ⟨w.heap.size, 0, none⟩) (Nat.le_refl _) a).setCell (p := ⟨w.heap.size, 1, none⟩) (Nat.le_refl _) b).setCell (p := ⟨w.heap.size, 2, none⟩) (Nat.le_refl _) c

/-- wr is w with a box of two cells, and what came behind it -/
def Past2 (w : World) (a b : Value) (T : TypeId) (wr : World) : Prop := Below (w.alloc (.cells #[a, b] T)).heap.size (w.alloc (.cells #[a, b] T)) wr
theorem Past2.cells {w wr : World} {a b : Value} {T : TypeId} (h : Past2 w a b T wr) :
    wr.cell? ⟨w.heap.size, 0, none⟩ = some a ∧ wr.cell? ⟨w.heap.size, 1, none⟩ = some b ∧ wr.frozen? ⟨w.heap.size, 0, none⟩ = false ∧ wr.frozen? ⟨w.heap.size, 1, none⟩ = false ∧ w.heap.size < wr.heap.size := blk2 h
theorem Past2.box {w wr : World} {a b : Value} {T : TypeId} (h : Past2 w a b T wr) : Below w.heap.size w wr := below_box h
theorem Past2.next {w wr w2 : World} {a b : Value} {T : TypeId} (h : Past2 w a b T wr) (h2 : Below wr.heap.size wr w2) : Past2 w a b T w2 := below_then h h2
theorem Past2.dr {w wr : World} {a b : Value} {T : TypeId} (h : Past2 w a b T wr) (n : Nat) : Past2 w a b T (wr.drewN n) := below_dr h n
theorem Past2.start (w : World) (a b : Value) (T : TypeId) : Past2 w a b T (w.alloc (.cells #[a, b] T)) := Below.refl _ _

end Go.Proofs.Ythjaanhkmfiajac

/- Items as Lean data: what a slice of items holds in memory, and the plain searches over it. No condition. -/
namespace Go.Proofs.Ythjaanhkmfiajac
open Go.RowKit

structure It where
  id : Int
  data : ByteArray
  refs : Int

/-- the slice value v holds the items L -/
def ItemsAt (w : World) (v : Value) (L : List It) : Prop :=
  ∃ (p : Option Addr) (cap : Nat), v = .slice p L.length cap ∧ L.length ≤ 140737488355328 ∧ (p = none → cap = 0) ∧
    ∀ (i : Nat) (x : It), L[i]? = some x → ∃ b off, p = some ⟨b, off, none⟩ ∧ b < w.heap.size ∧
      w.cell? ⟨b, off + i * 3, none⟩ = some (.int .i64 x.id) ∧ w.cell? ⟨b, off + i * 3 + 1, none⟩ = some (.string x.data) ∧ w.cell? ⟨b, off + i * 3 + 2, none⟩ = some (.int .i64 x.refs)

theorem ItemsAt.keep {w w' : World} {v : Value} {L : List It} (h : ItemsAt w v L) (hb : Below w.heap.size w w') : ItemsAt w' v L := by
  obtain ⟨p, cap, hv, hl, hn, hc⟩ := h
  refine ⟨p, cap, hv, hl, hn, fun i x hx => ?_⟩
  obtain ⟨b, off, hp, hlt, h0, h1, h2⟩ := hc i x hx
  exact ⟨b, off, hp, Nat.lt_of_lt_of_le hlt hb.size, (hb.cell (p := ⟨b, _, none⟩) hlt).trans h0, (hb.cell (p := ⟨b, _, none⟩) hlt).trans h1, (hb.cell (p := ⟨b, _, none⟩) hlt).trans h2⟩

/-- an item as a value -/
def It.val (x : It) : Value := .agg #[.int .i64 x.id, .string x.data, .int .i64 x.refs]
def It.zero : It := ⟨0, ⟨#[]⟩, 0⟩

/-- the place of an id -/
def pos (L : List It) (id : Int) : Option Nat := L.findIdx? (fun x => x.id == id)
def posInt (L : List It) (id : Int) : Int := match pos L id with
  | some k => k
  | none => -1

theorem pos_at {L : List It} {id : Int} {k : Nat} {x : It} (hk : L[k]? = some x) (hx : x.id = id) (h : ∀ (j : Nat) (y : It), j < k → L[j]? = some y → y.id ≠ id) : pos L id = some k := by
  unfold pos
  rw [List.findIdx?_eq_some_iff_getElem]
  obtain ⟨hlt, he⟩ := List.getElem?_eq_some_iff.1 hk
  refine ⟨hlt, by simp [he, hx], fun j hj => ?_⟩
  have := h j L[j] hj (List.getElem?_eq_getElem (by omega))
  simpa using this

theorem pos_none {L : List It} {id : Int} (h : ∀ (j : Nat) (y : It), L[j]? = some y → y.id ≠ id) : pos L id = none := by
  unfold pos
  rw [List.findIdx?_eq_none_iff]
  intro y hy
  obtain ⟨j, hj⟩ := List.getElem?_of_mem hy
  simpa using h j y hj

theorem bytes_eq {a b : ByteArray} : (a.toList == b.toList) = decide (a = b) := by
  rw [ByteArray.toList_eq, ByteArray.toList_eq, Bool.eq_iff_iff]
  simp only [beq_iff_eq, decide_eq_true_eq]
  exact ⟨fun h => ByteArray.ext (Array.toList_inj.1 h), fun h => by rw [h]⟩

/-- one item alone -/
def okB (x : It) : Bool := decide (0 ≤ x.id ∧ x.id ≤ 23) && decide (x.data.size ≤ 48) && decide (1 ≤ x.refs ∧ x.refs ≤ 32)
/-- two items, the first ahead of the second -/
def Ahead (y x : It) : Prop := y.id < x.id ∧ y.data ≠ x.data
instance (y x : It) : Decidable (Ahead y x) := by unfold Ahead; infer_instance
/-- P2.1 -/
def mayB (L : List It) : Bool := decide (L.length ≤ 24) && (L.all okB && decide (L.Pairwise Ahead))

theorem may_item {L : List It} {i : Nat} {x : It} (hx : L[i]? = some x) (h : okB x = false) : mayB L = false := by
  have : L.all okB = false := by
    rw [List.all_eq_false]
    exact ⟨x, List.mem_of_getElem? hx, by simp [h]⟩
  simp [mayB, this]

theorem may_pair {L : List It} {i k : Nat} {x y : It} (hx : L[i]? = some x) (hy : L[k]? = some y) (hk : k < i) (h : ¬ Ahead y x) : mayB L = false := by
  have : ¬ L.Pairwise Ahead := by
    intro hp
    rw [List.pairwise_iff_getElem] at hp
    obtain ⟨h1, e1⟩ := List.getElem?_eq_some_iff.1 hx
    obtain ⟨h2, e2⟩ := List.getElem?_eq_some_iff.1 hy
    have := hp k i h2 h1 hk
    rw [e1, e2] at this
    exact h this
  simp [mayB, this]

theorem may_all {L : List It} (hA : ∀ (j : Nat) (x : It), j < L.length → L[j]? = some x → okB x = true)
    (hB : ∀ (i j : Nat) (y x : It), i < j → j < L.length → L[i]? = some y → L[j]? = some x → Ahead y x) : mayB L = decide (L.length ≤ 24) := by
  have h1 : L.all okB = true := by
    rw [List.all_eq_true]
    intro x hx
    obtain ⟨j, hj⟩ := List.getElem?_of_mem hx
    exact hA j x (List.getElem?_eq_some_iff.1 hj).1 hj
  have h2 : L.Pairwise Ahead := by
    rw [List.pairwise_iff_getElem]
    intro i j hi hj hij
    exact hB i j _ _ hij hj (List.getElem?_eq_getElem hi) (List.getElem?_eq_getElem hj)
  simp [mayB, h1, h2]

/-- P2.2: the item and the error's number -/
def got (L : List It) (id : Int) : It × Int :=
  if mayB L then match pos L id with
    | some k => (L[k]?.getD It.zero, 0)
    | none => (It.zero, 6)
  else (It.zero, 7)
theorem got_bad {L : List It} {id : Int} (h : mayB L = false) : got L id = (It.zero, 7) := by unfold got; rw [if_neg (by simp [h])]
theorem got_none {L : List It} {id : Int} (h : mayB L = true) (hp : pos L id = none) : got L id = (It.zero, 6) := by unfold got; rw [if_pos h, hp]
theorem got_some {L : List It} {id : Int} {k : Nat} {x : It} (h : mayB L = true) (hp : pos L id = some k) (hx : L[k]? = some x) : got L id = (x, 0) := by unfold got; rw [if_pos h, hp]; simp [hx]
theorem pos_lt {L : List It} {id : Int} {k : Nat} (hp : pos L id = some k) : ∃ x, L[k]? = some x ∧ x.id = id := by
  unfold pos at hp
  rw [List.findIdx?_eq_some_iff_getElem] at hp
  obtain ⟨h, h2, _⟩ := hp
  exact ⟨L[k], List.getElem?_eq_getElem h, by simpa using h2⟩
theorem posInt_some {L : List It} {id : Int} {k : Nat} (hp : pos L id = some k) : posInt L id = k := by unfold posInt; rw [hp]
theorem posInt_none {L : List It} {id : Int} (hp : pos L id = none) : posInt L id = -1 := by unfold posInt; rw [hp]

/-- P2.4: what dropping leaves of one item -/
def dropOne (id : Int) (x : It) : Option It :=
  if x.id = id then (if 0 < x.refs - 1 then some { x with refs := x.refs - 1 } else none) else (if 0 < x.refs then some x else none)
theorem take_snoc {α : Type} {L : List α} {k : Nat} {x : α} (hx : L[k]? = some x) : L.take (k + 1) = L.take k ++ [x] := by
  obtain ⟨h, e⟩ := List.getElem?_eq_some_iff.1 hx
  rw [List.take_succ_eq_append_getElem h, e]
theorem fm_len {α β : Type} (f : α → Option β) (L : List α) : (L.filterMap f).length ≤ L.length := List.length_filterMap_le f L

theorem seen_more {L : List It} {k : Nat} {x : It} {id : Int} (h : ∀ (j : Nat) (y : It), j < k → L[j]? = some y → y.id ≠ id) (hx : L[k]? = some x) (hn : x.id ≠ id) : ∀ (j : Nat) (y : It), j < k + 1 → L[j]? = some y → y.id ≠ id := by
  intro j y hj hy
  by_cases hjk : j < k
  · exact h j y hjk hy
  · obtain rfl : j = k := by omega
    rw [hx] at hy; cases hy; exact hn

def MayA (L : List It) (k : Nat) : Prop := ∀ (j : Nat) (x : It), j < k → L[j]? = some x → okB x = true
def MayB (L : List It) (k : Nat) : Prop := ∀ (i j : Nat) (y x : It), i < j → j < k → L[i]? = some y → L[j]? = some x → Ahead y x
def MayC (L : List It) (k : Nat) (x : It) : Prop := ∀ (i : Nat) (y : It), i < k → L[i]? = some y → Ahead y x

theorem MayA.more {L : List It} {k : Nat} {x : It} (h : MayA L k) (hx : L[k]? = some x) (hok : okB x = true) : MayA L (k + 1) := by
  intro j y hj hy
  by_cases hjk : j < k
  · exact h j y hjk hy
  · obtain rfl : j = k := by omega
    rw [hx] at hy; cases hy; exact hok
theorem MayB.more {L : List It} {k : Nat} {x : It} (h : MayB L k) (hx : L[k]? = some x) (hc : MayC L k x) : MayB L (k + 1) := by
  intro i j y z hij hj hy hz
  by_cases hjk : j < k
  · exact h i j y z hij hjk hy hz
  · obtain rfl : j = k := by omega
    rw [hx] at hz; cases hz; exact hc i y hij hy
theorem MayC.more {L : List It} {k : Nat} {x y : It} (h : MayC L k x) (hy : L[k]? = some y) (ha : Ahead y x) : MayC L (k + 1) x := by
  intro i z hi hz
  by_cases hik : i < k
  · exact h i z hik hz
  · obtain rfl : i = k := by omega
    rw [hy] at hz; cases hz; exact ha
end Go.Proofs.Ythjaanhkmfiajac

/- A row of items that a call owns, told by a list of items: append of one item, of a whole slice; a field's store. No condition. -/
namespace Go.Proofs.Ythjaanhkmfiajac
open Go.RowKit

/-- the cells of items -/
def icells : List It → List Value
  | [] => []
  | x :: L => .int .i64 x.id :: .string x.data :: .int .i64 x.refs :: icells L
theorem icells_length : ∀ L : List It, (icells L).length = L.length * 3
  | [] => rfl
  | x :: L => by simp only [icells, List.length_cons, icells_length L]; omega
theorem icells_append : ∀ A B : List It, icells (A ++ B) = icells A ++ icells B
  | [], B => rfl
  | x :: A, B => by simp [icells, icells_append A B]
theorem icells_at : ∀ (L : List It) (i : Nat) (x : It), L[i]? = some x → (icells L)[i * 3]? = some (.int .i64 x.id) ∧ (icells L)[i * 3 + 1]? = some (.string x.data) ∧ (icells L)[i * 3 + 2]? = some (.int .i64 x.refs)
  | [], i, x, h => by simp at h
  | y :: L, 0, x, h => by simp at h; subst h; exact ⟨rfl, rfl, rfl⟩
  | y :: L, i + 1, x, h => by
    have := icells_at L i x (by simpa using h)
    rw [show (i + 1) * 3 = i * 3 + 3 by omega]
    exact this
theorem icells_one (L : List It) : ∀ u ∈ icells L, u.oneCell' = true := by
  induction L with
  | nil => intro u h; simp [icells] at h
  | cons x L ih =>
    intro u h
    simp only [icells, List.mem_cons] at h
    rcases h with rfl | rfl | rfl | h
    · rfl
    · rfl
    · rfl
    · exact ih u h

/-- v is the call's own row of the items L -/
def OwnI (B : Nat) (e : TypeId) (v : Value) (L : List It) (W0 w : World) : Prop := w.ownsRow B e 3 v L.length (icells L) ∧ Below B W0 w ∧ B ≤ w.heap.size

theorem OwnI.nil {B : Nat} {e : TypeId} {W0 w : World} (hb : Below B W0 w) (h : B ≤ w.heap.size) : OwnI B e (.slice none 0 0) [] W0 w := ⟨World.ownsRow_nil _ _ _ _, hb, h⟩
theorem OwnI.below {B : Nat} {e : TypeId} {v : Value} {L : List It} {W0 w : World} (h : OwnI B e v L W0 w) : Below B W0 w := h.2.1
theorem OwnI.alloc {B : Nat} {e : TypeId} {v : Value} {L : List It} {W0 w : World} (h : OwnI B e v L W0 w) (o : Obj) : OwnI B e v L W0 (w.alloc o) := ⟨h.1.alloc o, h.2.1.alloc h.2.2 o, Nat.le_trans h.2.2 (by simp)⟩
theorem OwnI.cast {B : Nat} {e : TypeId} {v : Value} {l l' : List It} {W0 w : World} (h : OwnI B e v l W0 w) (hl : l = l') : OwnI B e v l' W0 w := hl ▸ h
theorem OwnI.grown {B : Nat} {e : TypeId} {v v' : Value} {L L' : List It} {W0 w w' : World} (h : OwnI B e v L W0 w) (ho : w'.ownsRow B e 3 v' L'.length (icells L')) (hg : w.grownBy w' v.ownBlock) : OwnI B e v' L' W0 w' :=
  ⟨ho, h.2.1.grown hg h.2.2 (fun k hk => (h.1.lt k hk).1), Nat.le_trans h.2.2 hg.size⟩
theorem OwnI.past {B : Nat} {e : TypeId} {v : Value} {l : List It} {W0 w w' : World} (h : OwnI B e v l W0 w) (hb : Below w.heap.size w w') : OwnI B e v l W0 w' := by
  obtain ⟨h1, h2, h3⟩ := h
  refine ⟨⟨h1.1, ?_⟩, h2.trans (hb.mono h3), Nat.le_trans h3 hb.size⟩
  rcases h1.2 with hn | ⟨g, cap, cur, hv, hB, hg, rest⟩
  · exact .inl hn
  · exact .inr ⟨g, cap, cur, hv, hB, by rw [hb.block g (Array.getElem?_eq_some_iff.1 hg).1]; exact hg, rest⟩
theorem OwnI.drewN {B : Nat} {e : TypeId} {v : Value} {l : List It} {W0 w : World} (h : OwnI B e v l W0 w) (n : Nat) : OwnI B e v l W0 (w.drewN n) := ⟨h.1, below_dr h.2.1 n, h.2.2⟩

theorem OwnI.drew {B : Nat} {e : TypeId} {v : Value} {l : List It} {W0 w : World} (h : OwnI B e v l W0 w) : OwnI B e v l W0 w.drew := ⟨h.1, h.2.1.drew, h.2.2⟩

/-- read as any slice of items -/
theorem OwnI.items {B : Nat} {e : TypeId} {v : Value} {L : List It} {W0 w : World} (h : OwnI B e v L W0 w) (hl : L.length ≤ 140737488355328) : ItemsAt w v L := by
  obtain ⟨h1, _, _⟩ := h
  rcases h1.2 with ⟨rfl, hn⟩ | ⟨g, cap, cur, rfl, hB, hg, hcap, _, _, htk⟩
  · have : L = [] := List.eq_nil_of_length_eq_zero hn
    subst this
    exact ⟨none, 0, rfl, hl, fun _ => rfl, fun i x hx => by simp at hx⟩
  · refine ⟨some ⟨g, 0, none⟩, cap, rfl, hl, (fun h => by cases h), fun i x hx => ⟨g, 0, rfl, (Array.getElem?_eq_some_iff.1 hg).1, ?_⟩⟩
    have hi := (List.getElem?_eq_some_iff.1 hx).1
    obtain ⟨c0, c1, c2⟩ := icells_at L i x hx
    have hat : ∀ j, j < L.length * 3 → w.cell? ⟨g, j, none⟩ = (icells L)[j]? := fun j hj => h1.cellAt j hj
    exact ⟨by rw [Nat.zero_add, hat _ (by omega)]; exact c0, by rw [Nat.zero_add, hat _ (by omega)]; exact c1, by rw [Nat.zero_add, hat _ (by omega)]; exact c2⟩

/-- a row that begins later, seen from earlier -/
theorem OwnI.lower {B B' : Nat} {e : TypeId} {v : Value} {L : List It} {W0 W1 w : World} (h : OwnI B' e v L W1 w) (hB : B ≤ B') (hb : Below B W0 W1) : OwnI B e v L W0 w := by
  obtain ⟨h1, h2, h3⟩ := h
  refine ⟨⟨h1.1, ?_⟩, hb.trans (h2.mono hB), Nat.le_trans hB h3⟩
  rcases h1.2 with hn | ⟨g, cap, cur, hv, hg, rest⟩
  · exact .inl hn
  · exact .inr ⟨g, cap, cur, hv, Nat.le_trans hB hg, rest⟩

theorem OwnI.shape {B : Nat} {e : TypeId} {v : Value} {L : List It} {W0 w : World} (h : OwnI B e v L W0 w) (hne : 0 < L.length) : ∃ g cap, v = .slice (some ⟨g, 0, none⟩) L.length cap ∧ B ≤ g ∧ g < w.heap.size ∧ L.length ≤ cap := by
  rcases h.1.2 with ⟨_, hn⟩ | ⟨g, cap, cur, rfl, hB, hg, hcap, _⟩
  · omega
  · exact ⟨g, cap, rfl, hB, (Array.getElem?_eq_some_iff.1 hg).1, hcap⟩

theorem OwnI.cell {B g cap n : Nat} {e : TypeId} {L : List It} {W0 w : World} (h : OwnI B e (.slice (some ⟨g, 0, none⟩) n cap) L W0 w) {k : Nat} {x : It} (hx : L[k]? = some x) :
    w.cell? ⟨g, k * 3, none⟩ = some (.int .i64 x.id) ∧ w.cell? ⟨g, k * 3 + 1, none⟩ = some (.string x.data) ∧ w.cell? ⟨g, k * 3 + 2, none⟩ = some (.int .i64 x.refs) ∧ (∀ j, w.frozen? ⟨g, j, none⟩ = false) ∧ n = L.length := by
  have hk := (List.getElem?_eq_some_iff.1 hx).1
  have hnL : n = L.length := by
    rcases h.1.2 with ⟨h', _⟩ | ⟨g', cap', cur, h', _⟩
    · cases h'
    · cases h'; rfl
  subst hnL
  obtain ⟨c0, c1, c2⟩ := icells_at L k x hx
  exact ⟨(h.1.cellAt _ (by omega)).trans c0, (h.1.cellAt _ (by omega)).trans c1, (h.1.cellAt _ (by omega)).trans c2, h.1.frozenAt, rfl⟩

theorem icells_set2 : ∀ (L : List It) (k : Nat) (x : It) (r : Int), L[k]? = some x → (icells L).set (k * 3 + 2) (.int .i64 r) = icells (L.set k { x with refs := r })
  | [], k, x, r, h => by simp at h
  | y :: L, 0, x, r, h => by simp at h; subst h; rfl
  | y :: L, k + 1, x, r, h => by
    have := icells_set2 L k x r (by simpa using h)
    rw [show (k + 1) * 3 + 2 = (k * 3 + 2) + 3 by omega]
    simp only [icells, List.set_cons_succ, this]

/-- 'out[k].Refs = r' -/
theorem OwnI.setRefs {B g cap n : Nat} {e : TypeId} {L : List It} {W0 w : World} (h : OwnI B e (.slice (some ⟨g, 0, none⟩) n cap) L W0 w) {k : Nat} {x : It} (hx : L[k]? = some x) (r : Int) :
    OwnI B e (.slice (some ⟨g, 0, none⟩) n cap) (L.set k { x with refs := r }) W0 (w.setCell ⟨g, k * 3 + 2, none⟩ (.int .i64 r)) := by
  obtain ⟨_, _, _, _, rfl⟩ := h.cell hx
  obtain ⟨h1, h2⟩ := h.1.stored (k * 3 + 2) (.int .i64 r)
  rw [icells_set2 L k x r hx] at h1
  have hg : B ≤ g := (h.1.lt g rfl).1
  refine ⟨by rw [List.length_set]; exact h1, h.2.1.setCell (p := ⟨g, _, none⟩) hg _, Nat.le_trans h.2.2 h2.size⟩

section
variable {P : Program}

/-- one item more -/
theorem wpList_own_item {ops : Array Oper} {rest : List Oper} {o : Oper} {a : Act} {Q : Exit → Act → World → Prop} (hgd : o.guard = none) (s x : Operand) (t : TypeId)
    (ho : o.op = .call { callee := .builtin .append, args := #[s, x], argTypes := #[t, t] })
    (B : Nat) (e : TypeId) (i : TypeInfo) (z : Value) (ht : P.underlying t = some (.slice e)) (hi : P.info? e = some i) (hz : i.zero = some z) (hzs : z.cells.size = 3) (hsize : i.size = 3) (hby : i.bytes = 32)
    (v : Value) (L : List It) (hs : a.eval s = v) (W0 w0 : World) (y : It) (hb : OwnI B e v L W0 w0)
    (g : Nat) (hx : a.eval x = .slice (some ⟨g, 0, none⟩) 1 1) (hgw : g = w0.heap.size) (hlen : L.length + 1 ≤ 1000000)
    (h : ∀ v' w', OwnI B e v' (L ++ [y]) W0 w' → wpList P ops Q rest (a.put o.dst v') w') : wpList P ops Q (o :: rest) a (w0.alloc (.cells #[.int .i64 y.id, .string y.data, .int .i64 y.refs] e)) := by
  subst hgw
  have hb' := hb.alloc (.cells #[.int .i64 y.id, .string y.data, .int .i64 y.refs] e)
  refine wpList_append_own _ hgd s x t ho B e i z 3 32 ht hi hz hsize hby hzs (by decide) v L.length (icells L) hs hb'.1 ⟨w0.heap.size, 0, none⟩ 1 1 (icells [y]) hx rfl ?_ (icells_one _) (by unfold maxLen; omega) (by omega) hb'.2.2 ?_
  · intro j u hj
    match j, hj with
    | 0, hj => simp [icells] at hj; subst hj; simp [Addr.add]
    | 1, hj => simp [icells] at hj; subst hj; simp [Addr.add]
    | 2, hj => simp [icells] at hj; subst hj; simp [Addr.add]
    | (j + 3), hj => simp [icells] at hj
  · intro v' w' ho' hg _
    exact h v' w' (hb'.grown (by rw [icells_append, List.length_append]; exact ho') hg)

/-- a whole slice more -/
theorem wpList_own_items {ops : Array Oper} {rest : List Oper} {o : Oper} {a : Act} {Q : Exit → Act → World → Prop} {w : World} (hgd : o.guard = none) (s x : Operand) (t : TypeId)
    (ho : o.op = .call { callee := .builtin .append, args := #[s, x], argTypes := #[t, t] })
    (B : Nat) (e : TypeId) (i : TypeInfo) (z : Value) (ht : P.underlying t = some (.slice e)) (hi : P.info? e = some i) (hz : i.zero = some z) (hzs : z.cells.size = 3) (hsize : i.size = 3) (hby : i.bytes = 32)
    (v : Value) (L : List It) (hs : a.eval s = v) (W0 : World) (M : List It) (vm : Value) (hb : OwnI B e v L W0 w) (hm : ItemsAt w vm M)
    (hx : a.eval x = vm) (hlen : (L.length + M.length) * 32 ≤ 140737488355328)
    (h : ∀ v' w', OwnI B e v' (L ++ M) W0 w' → wpList P ops Q rest (a.put o.dst v') w') : wpList P ops Q (o :: rest) a w := by
  obtain ⟨p, cap, rfl, hl, hn, hc⟩ := hm
  cases p with
  | none =>
    have : M = [] := by
      cases M with
      | nil => rfl
      | cons y M => obtain ⟨_, _, hp, _⟩ := hc 0 y rfl; cases hp
    subst this
    rw [hn rfl] at hx
    refine wpList_append_own_none hgd s x t ho B e i 3 ht hi v L.length (icells L) hs hb.1 hx ?_
    exact h v w (hb.cast (by simp))
  | some ad =>
    refine wpList_append_own _ hgd s x t ho B e i z 3 32 ht hi hz hsize hby hzs (by decide) v L.length (icells L) hs hb.1 ad M.length cap (icells M) hx (icells_length M) ?_ (icells_one _) (by unfold maxLen; omega) hlen hb.2.2 ?_
    · intro j u hj
      have hjl := (List.getElem?_eq_some_iff.1 hj).1
      rw [icells_length] at hjl
      obtain ⟨q, r, hr, hjq⟩ : ∃ q r, r < 3 ∧ j = q * 3 + r := ⟨j / 3, j % 3, by omega, by omega⟩
      have hq : q < M.length := by omega
      obtain ⟨b, off, hp, _, c0, c1, c2⟩ := hc q M[q] (List.getElem?_eq_getElem hq)
      cases hp
      obtain ⟨d0, d1, d2⟩ := icells_at M q M[q] (List.getElem?_eq_getElem hq)
      have ha : ∀ n, (⟨b, off, none⟩ : Addr).add n = ⟨b, off + n, none⟩ := fun n => by unfold Addr.add; split <;> simp_all
      rw [ha, hjq]
      rw [hjq] at hj
      match r, hr with
      | 0, _ => rw [← hj]; exact c0.trans d0.symm
      | 1, _ => rw [← hj]; exact c1.trans d1.symm
      | 2, _ => rw [← hj]; exact c2.trans d2.symm
    · intro v' w' ho' hg _
      exact h v' w' (hb.grown (by rw [icells_append, List.length_append]; exact ho') hg)
end
end Go.Proofs.Ythjaanhkmfiajac

/- Using and dropping on a list of items (P2.4), and what the answers are called. No program's run; no condition but those in the statements. -/
namespace Go.Proofs.Ythjaanhkmfiajac
open Go.RowKit

theorem ret_got {p : It × Int} {x : It} {n : Int} (h : p = (x, n)) : Ending.returned (.tuple #[.agg #[.int .i64 x.id, .string x.data, .int .i64 x.refs], .int .i64 n]) = .returned (.tuple #[p.1.val, .int .i64 p.2]) := by subst h; rfl

theorem Try.infoItem : (Try.prog.info? 55).map (fun i => (i.zero, i.size, i.bytes)) = some (some (.agg #[.int .i64 0, .string ⟨#[]⟩, .int .i64 0]), 3, 32) := by kernel_rfl

/-- P2.4: the items and the error's number -/
def used (L : List It) (id : Int) : List It × Int :=
  if (got L id).2 ≠ 0 then ([], (got L id).2)
  else if 32 ≤ (got L id).1.refs then ([], 1)
  else match pos L id with
    | some k => (L.set k { (got L id).1 with refs := (got L id).1.refs + 1 }, 0)
    | none => ([], 0)

def RetItems (M : List It) (n : Int) (W0 : World) (e : Ending) (w' : World) : Prop := ∃ v, e = .returned (.tuple #[v, .int .i64 n]) ∧ OwnI W0.heap.size 55 v M W0 w'

theorem got_cases (L : List It) (id : Int) : (∃ n : Int, (n == 0) = false ∧ got L id = (It.zero, n)) ∨ ∃ k x, L[k]? = some x ∧ pos L id = some k ∧ mayB L = true ∧ got L id = (x, 0) := by
  cases hm : mayB L with
  | false => exact Or.inl ⟨7, rfl, got_bad hm⟩
  | true =>
    cases hp : pos L id with
    | none => exact Or.inl ⟨6, rfl, got_none hm hp⟩
    | some k =>
      obtain ⟨x, hx, _⟩ := pos_lt hp
      exact Or.inr ⟨k, x, hx, rfl, rfl, got_some hm hp hx⟩

theorem may_len {L : List It} (h : mayB L = true) : L.length ≤ 24 := by
  simp only [mayB, Bool.and_eq_true, decide_eq_true_eq] at h
  exact h.1

theorem may_ok {L : List It} (h : mayB L = true) {k : Nat} {x : It} (hx : L[k]? = some x) : 0 ≤ x.id ∧ x.id ≤ 23 ∧ x.data.size ≤ 48 ∧ 1 ≤ x.refs ∧ x.refs ≤ 32 := by
  simp only [mayB, Bool.and_eq_true, decide_eq_true_eq, List.all_eq_true] at h
  have := h.2.1 x (List.mem_of_getElem? hx)
  simp only [okB, Bool.and_eq_true, decide_eq_true_eq] at this
  omega

def dropped (L : List It) (id : Int) : List It × Int :=
  if (got L id).2 ≠ 0 then ([], (got L id).2) else (L.filterMap (dropOne id), 0)

theorem fm_self {f : It → Option It} : ∀ l : List It, (∀ y ∈ l, f y = some y) → l.filterMap f = l
  | [], _ => rfl
  | y :: l, h => by
    rw [List.filterMap_cons, h y (by simp)]
    simp only
    rw [fm_self l (fun z hz => h z (by simp [hz]))]

theorem may_apart {L : List It} (h : mayB L = true) {i j : Nat} {y x : It} (hij : i < j) (hy : L[i]? = some y) (hx : L[j]? = some x) : Ahead y x := by
  apply Classical.byContradiction
  intro hn
  rw [may_pair hx hy hij hn] at h
  cases h

/-- dropping touches the one item alone -/
theorem drop_split {L : List It} {id : Int} {k : Nat} {x : It} (hm : mayB L = true) (hx : L[k]? = some x) (hid : x.id = id) :
    L.filterMap (dropOne id) = L.take k ++ (dropOne id x).toList ++ L.drop (k + 1) := by
  have hk := (List.getElem?_eq_some_iff.1 hx).1
  have hke := (List.getElem?_eq_some_iff.1 hx).2
  have e : L = L.take k ++ x :: L.drop (k + 1) := by rw [← hke, List.getElem_cons_drop, List.take_append_drop]
  have h1 : (L.take k).filterMap (dropOne id) = L.take k := by
    refine fm_self _ (fun y hy => ?_)
    obtain ⟨i, hi⟩ := List.getElem?_of_mem hy
    have hil := (List.getElem?_eq_some_iff.1 hi).1
    simp at hil
    rw [List.getElem?_take_of_lt (by omega)] at hi
    have ha := may_apart hm (by omega) hi hx
    have hok := may_ok hm hi
    unfold dropOne
    rw [if_neg (by have := ha.1; omega), if_pos (by omega)]
  have h2 : (L.drop (k + 1)).filterMap (dropOne id) = L.drop (k + 1) := by
    refine fm_self _ (fun y hy => ?_)
    obtain ⟨i, hi⟩ := List.getElem?_of_mem hy
    rw [List.getElem?_drop] at hi
    have ha := may_apart hm (by omega) hx hi
    have hok := may_ok hm hi
    unfold dropOne
    rw [if_neg (by have := ha.1; omega), if_pos (by omega)]
  conv => lhs; rw [e]
  rw [List.filterMap_append, h1, List.filterMap_cons, h2]
  cases hd : dropOne id x <;> simp
end Go.Proofs.Ythjaanhkmfiajac

/- Keeping on a list of items (P2.3): the smallest unused id and its place. No program's run; no condition but those in the statements. -/
namespace Go.Proofs.Ythjaanhkmfiajac
open Go.RowKit

def posData (L : List It) (d : ByteArray) : Option Nat := L.findIdx? (fun x => decide (x.data = d))
theorem posData_at {L : List It} {d : ByteArray} {k : Nat} {x : It} (hk : L[k]? = some x) (hx : x.data = d) (h : ∀ (j : Nat) (y : It), j < k → L[j]? = some y → y.data ≠ d) : posData L d = some k := by
  unfold posData
  rw [List.findIdx?_eq_some_iff_getElem]
  obtain ⟨hlt, he⟩ := List.getElem?_eq_some_iff.1 hk
  refine ⟨hlt, by simp [he, hx], fun j hj => ?_⟩
  have := h j L[j] hj (List.getElem?_eq_getElem (by omega))
  simpa using this
theorem posData_none {L : List It} {d : ByteArray} (h : ∀ (j : Nat) (y : It), L[j]? = some y → y.data ≠ d) : posData L d = none := by
  unfold posData
  rw [List.findIdx?_eq_none_iff]
  intro y hy
  obtain ⟨j, hj⟩ := List.getElem?_of_mem hy
  simpa using h j y hj

/-- the smallest unused id, 24 if there is none -/
def freeId (L : List It) : Nat := ((List.range 25).find? (fun (n : Nat) => (pos L (n : Int)).isNone)).getD 24
theorem free_at {L : List It} {n : Nat} (hn : n ≤ 24) (hp : pos L (n : Int) = none) (h : ∀ j, j < n → ∃ k, pos L (j : Int) = some k) : freeId L = n := by
  unfold freeId
  have : (List.range 25).find? (fun (n : Nat) => (pos L (n : Int)).isNone) = some n := by
    rw [List.find?_range_eq_some]
    refine ⟨by simp [hp], by simp; omega, fun j hj => ?_⟩
    obtain ⟨k, hk⟩ := h j hj
    simp [hk]
  rw [this]; rfl

/-- P2.3: the items, the id and the error's number -/
def kept (L : List It) (d : ByteArray) : List It × Int × Int :=
  if mayB L = false then ([], 0, 7)
  else if 48 < d.size then ([], 0, 1)
  else match posData L d with
    | some k => if (used L (L[k]?.getD It.zero).id).2 ≠ 0 then ([], 0, (used L (L[k]?.getD It.zero).id).2) else ((used L (L[k]?.getD It.zero).id).1, (L[k]?.getD It.zero).id, 0)
    | none => if 23 < freeId L then ([], 0, 1)
      else (L.filter (fun x => decide (x.id < (freeId L : Int))) ++ [⟨(freeId L : Int), d, 1⟩] ++ L.filter (fun x => decide ((freeId L : Int) < x.id)), (freeId L : Int), 0)

def RetKept (M : List It) (id n : Int) (W0 : World) (e : Ending) (w' : World) : Prop := ∃ v, e = .returned (.tuple #[v, .int .i64 id, .int .i64 n]) ∧ OwnI W0.heap.size 55 v M W0 w'

theorem data_more {L : List It} {k : Nat} {x : It} {d : ByteArray} (h : ∀ (j : Nat) (y : It), j < k → L[j]? = some y → y.data ≠ d) (hx : L[k]? = some x) (hn : x.data ≠ d) : ∀ (j : Nat) (y : It), j < k + 1 → L[j]? = some y → y.data ≠ d := by
  intro j y hj hy
  by_cases hjk : j < k
  · exact h j y hjk hy
  · obtain rfl : j = k := by omega
    rw [hx] at hy; cases hy; exact hn

theorem used_more {L : List It} {n q : Nat} (h : ∀ j, j < n → ∃ k, pos L (j : Int) = some k) (hq : pos L (n : Int) = some q) : ∀ j, j < n + 1 → ∃ k, pos L (j : Int) = some k := by
  intro j hj
  by_cases hjn : j < n
  · exact h j hjn
  · obtain rfl : j = n := by omega
    exact ⟨q, hq⟩

/-- k is the first place whose id is not the place -/
def Gap (L : List It) (k : Nat) : Prop := k ≤ L.length ∧ (∀ (j : Nat) (y : It), j < k → L[j]? = some y → y.id = (j : Int)) ∧ ∀ x, L[k]? = some x → x.id ≠ (k : Int)

theorem id_ge {L : List It} (hm : mayB L = true) : ∀ (j : Nat) (y : It), L[j]? = some y → (j : Int) ≤ y.id
  | 0, y, hy => by have := (may_ok hm hy).1; omega
  | j + 1, y, hy => by
    have hj := (List.getElem?_eq_some_iff.1 hy).1
    have hp := List.getElem?_eq_getElem (l := L) (i := j) (by omega)
    have ih := id_ge hm j _ hp
    have ha := (may_apart hm (Nat.lt_succ_self j) hp hy).1
    omega
theorem id_up {L : List It} (hm : mayB L = true) {k : Nat} {x : It} (hx : L[k]? = some x) (hne : x.id ≠ (k : Int)) : ∀ (m : Nat) (z : It), L[k + m]? = some z → (k : Int) + 1 + m ≤ z.id
  | 0, z, hz => by
    rw [Nat.add_zero, hx] at hz; cases hz
    have := id_ge hm k x hx
    omega
  | m + 1, z, hz => by
    have hj := (List.getElem?_eq_some_iff.1 hz).1
    have hp := List.getElem?_eq_getElem (l := L) (i := k + m) (by omega)
    have ih := id_up hm hx hne m _ hp
    have ha := (may_apart hm (show k + m < k + (m + 1) by omega) hp hz).1
    omega
theorem gap_full {L : List It} (hm : mayB L = true) (hl : L.length = 24) {k : Nat} (hg : Gap L k) : k = 24 := by
  apply Classical.byContradiction
  intro hk
  have hk24 : k < 24 := by have := hg.1; omega
  have hx := List.getElem?_eq_getElem (l := L) (i := k) (by omega)
  have hz := List.getElem?_eq_getElem (l := L) (i := k + (23 - k)) (by omega)
  have h1 := id_up hm hx (hg.2.2 _ hx) (23 - k) _ hz
  have h2 := (may_ok hm hz).2.1
  omega
theorem gap_pos {L : List It} (hm : mayB L = true) {k : Nat} (hg : Gap L k) : pos L (k : Int) = none := by
  refine pos_none (fun j y hy he => ?_)
  by_cases h1 : j < k
  · have := hg.2.1 j y h1 hy; omega
  · by_cases h2 : j = k
    · subst h2; exact hg.2.2 y hy he
    · have := id_ge hm j y hy; omega
theorem gap_free {L : List It} (hm : mayB L = true) {k : Nat} (hg : Gap L k) : freeId L = k := by
  have hl := may_len hm
  refine free_at (by have := hg.1; omega) (gap_pos hm hg) (fun j hj => ?_)
  have hy := List.getElem?_eq_getElem (l := L) (i := j) (by have := hg.1; omega)
  refine ⟨j, pos_at hy (hg.2.1 j _ hj hy) (fun i z hi hz he => ?_)⟩
  have := hg.2.1 i z (by omega) hz
  omega
theorem gap_lower {L : List It} (hm : mayB L = true) {k : Nat} (hg : Gap L k) : L.filter (fun x => decide (x.id < (k : Int))) = L.take k := by
  have hk := hg.1
  have e : L.filter (fun x => decide (x.id < (k : Int))) = (L.take k ++ L.drop k).filter (fun x => decide (x.id < (k : Int))) := by rw [List.take_append_drop]
  rw [e, List.filter_append]
  have h1 : (L.take k).filter (fun x => decide (x.id < (k : Int))) = L.take k := by
    rw [List.filter_eq_self]
    intro y hy
    obtain ⟨i, hi⟩ := List.getElem?_of_mem hy
    have hil := (List.getElem?_eq_some_iff.1 hi).1
    simp at hil
    rw [List.getElem?_take_of_lt (by omega)] at hi
    have := hg.2.1 i y (by omega) hi
    simp; omega
  have h2 : (L.drop k).filter (fun x => decide (x.id < (k : Int))) = [] := by
    rw [List.filter_eq_nil_iff]
    intro y hy
    obtain ⟨i, hi⟩ := List.getElem?_of_mem hy
    rw [List.getElem?_drop] at hi
    have := id_ge hm _ y hi
    simp; omega
  rw [h1, h2, List.append_nil]
theorem gap_upper {L : List It} (hm : mayB L = true) {k : Nat} (hg : Gap L k) : L.filter (fun x => decide ((k : Int) < x.id)) = L.drop k := by
  have hk := hg.1
  have e : L.filter (fun x => decide ((k : Int) < x.id)) = (L.take k ++ L.drop k).filter (fun x => decide ((k : Int) < x.id)) := by rw [List.take_append_drop]
  rw [e, List.filter_append]
  have h1 : (L.take k).filter (fun x => decide ((k : Int) < x.id)) = [] := by
    rw [List.filter_eq_nil_iff]
    intro y hy
    obtain ⟨i, hi⟩ := List.getElem?_of_mem hy
    have hil := (List.getElem?_eq_some_iff.1 hi).1
    simp at hil
    rw [List.getElem?_take_of_lt (by omega)] at hi
    have := hg.2.1 i y (by omega) hi
    simp; omega
  have h2 : (L.drop k).filter (fun x => decide ((k : Int) < x.id)) = L.drop k := by
    rw [List.filter_eq_self]
    intro y hy
    obtain ⟨i, hi⟩ := List.getElem?_of_mem hy
    rw [List.getElem?_drop] at hi
    have := id_ge hm _ y hi
    by_cases h0 : i = 0
    · subst h0
      have := hg.2.2 y (by simpa using hi)
      simp; omega
    · simp; omega
  rw [h1, h2, List.nil_append]

/-- what add gives -/
def added (L : List It) (d : ByteArray) : List It × Int × Int :=
  if 23 < freeId L then ([], 0, 1)
  else (L.filter (fun x => decide (x.id < (freeId L : Int))) ++ [⟨(freeId L : Int), d, 1⟩] ++ L.filter (fun x => decide ((freeId L : Int) < x.id)), (freeId L : Int), 0)

theorem kept_new {L : List It} {d : ByteArray} (hm : mayB L = true) (hd : ¬ 48 < d.size) (hp : posData L d = none) : kept L d = added L d := by
  unfold kept added
  rw [if_neg (by simp [hm]), if_neg hd, hp]
theorem pos_of {L : List It} (hm : mayB L = true) {k : Nat} {x : It} (hx : L[k]? = some x) : pos L x.id = some k := by
  refine pos_at hx rfl (fun j y hj hy he => ?_)
  have := (may_apart hm hj hy hx).1
  omega
theorem kept_old {L : List It} {d : ByteArray} (hm : mayB L = true) (hd : ¬ 48 < d.size) {k : Nat} {x : It} (hp : posData L d = some k) (hx : L[k]? = some x) :
    kept L d = if 32 ≤ x.refs then ([], 0, 1) else (L.set k { x with refs := x.refs + 1 }, x.id, 0) := by
  unfold kept
  rw [if_neg (by simp [hm]), if_neg hd, hp]
  simp only [hx, Option.getD_some]
  have hu : used L x.id = if 32 ≤ x.refs then ([], 1) else (L.set k { x with refs := x.refs + 1 }, 0) := by
    unfold used
    rw [got_some hm (pos_of hm hx) hx, if_neg (by simp), pos_of hm hx]
  rw [hu]
  by_cases hr : 32 ≤ x.refs
  · simp [hr]
  · simp [hr]
theorem posData_lt {L : List It} {d : ByteArray} {k : Nat} (hp : posData L d = some k) : ∃ x, L[k]? = some x ∧ x.data = d := by
  unfold posData at hp
  rw [List.findIdx?_eq_some_iff_getElem] at hp
  obtain ⟨h, h2, _⟩ := hp
  exact ⟨L[k], List.getElem?_eq_getElem h, by simpa using h2⟩
theorem posData_no {L : List It} {d : ByteArray} (hp : posData L d = none) : ∀ (j : Nat) (y : It), j < L.length → L[j]? = some y → y.data ≠ d := by
  unfold posData at hp
  rw [List.findIdx?_eq_none_iff] at hp
  intro j y _ hy
  simpa using hp y (List.mem_of_getElem? hy)
end Go.Proofs.Ythjaanhkmfiajac

/- Slices of integers and volumes as Lean data: what they hold in memory. No condition. -/
namespace Go.Proofs.Ythjaanhkmfiajac
open Go.RowKit

/-- the slice value v holds the integers Z -/
def IntsAt (w : World) (v : Value) (Z : List Int) : Prop :=
  ∃ (p : Option Addr) (cap : Nat), v = .slice p Z.length cap ∧ Z.length ≤ 140737488355328 ∧ (p = none → cap = 0) ∧
    ∀ (i : Nat) (z : Int), Z[i]? = some z → ∃ b off, p = some ⟨b, off, none⟩ ∧ b < w.heap.size ∧ w.cell? ⟨b, off + i, none⟩ = some (.int .i64 z)

theorem IntsAt.keep {w w' : World} {v : Value} {Z : List Int} (h : IntsAt w v Z) (hb : Below w.heap.size w w') : IntsAt w' v Z := by
  obtain ⟨p, cap, hv, hl, hn, hc⟩ := h
  refine ⟨p, cap, hv, hl, hn, fun i x hx => ?_⟩
  obtain ⟨b, off, hp, hlt, h0⟩ := hc i x hx
  exact ⟨b, off, hp, Nat.lt_of_lt_of_le hlt hb.size, (hb.cell (p := ⟨b, _, none⟩) hlt).trans h0⟩

/-- integers of 64 bits -/
def WideZ (Z : List Int) : Prop := ∀ z ∈ Z, -9223372036854775808 ≤ z ∧ z ≤ 9223372036854775807

/-- a volume -/
structure Vol where
  items : List It
  blocks : List Int

/-- the value v, a struct, holds the volume V -/
def VolAt (w : World) (v : Value) (V : Vol) : Prop := ∃ vi vb, v = .agg #[vi, vb] ∧ ItemsAt w vi V.items ∧ IntsAt w vb V.blocks
theorem VolAt.keep {w w' : World} {v : Value} {V : Vol} (h : VolAt w v V) (hb : Below w.heap.size w w') : VolAt w' v V := by
  obtain ⟨vi, vb, hv, h1, h2⟩ := h
  exact ⟨vi, vb, hv, h1.keep hb, h2.keep hb⟩

/-- P3.1, a block's cell -/
def blockB (L : List It) (z : Int) : Bool := decide (z = -1) || (decide (0 ≤ z) && (pos L z).isSome)
/-- P3.1, an item's uses -/
def usesB (Z : List Int) (x : It) : Bool := decide ((Z.count x.id : Int) = x.refs) && decide (0 < x.data.size)
/-- P3.1 -/
def volB (V : Vol) : Bool := mayB V.items && decide (1 ≤ V.blocks.length ∧ V.blocks.length ≤ 32) && V.blocks.all (blockB V.items) && V.items.all (usesB V.blocks)

theorem vol_items {V : Vol} (h : mayB V.items = false) : volB V = false := by simp [volB, h]
theorem vol_len {V : Vol} (h : ¬ (1 ≤ V.blocks.length ∧ V.blocks.length ≤ 32)) : volB V = false := by simp only [volB, decide_eq_false h, Bool.and_false, Bool.false_and]
theorem vol_block {V : Vol} {k : Nat} {z : Int} (hz : V.blocks[k]? = some z) (h : blockB V.items z = false) : volB V = false := by
  have : V.blocks.all (blockB V.items) = false := by
    rw [List.all_eq_false]
    exact ⟨z, List.mem_of_getElem? hz, by simp [h]⟩
  simp [volB, this]
theorem vol_uses {V : Vol} {k : Nat} {x : It} (hx : V.items[k]? = some x) (h : usesB V.blocks x = false) : volB V = false := by
  have : V.items.all (usesB V.blocks) = false := by
    rw [List.all_eq_false]
    exact ⟨x, List.mem_of_getElem? hx, by simp [h]⟩
  simp [volB, this]
theorem all_at {α : Type} {L : List α} {f : α → Bool} (h : ∀ (k : Nat) (x : α), k < L.length → L[k]? = some x → f x = true) : L.all f = true := by
  rw [List.all_eq_true]
  intro x hx
  obtain ⟨j, hj⟩ := List.getElem?_of_mem hx
  exact h j x (List.getElem?_eq_some_iff.1 hj).1 hj
theorem vol_all {V : Vol} (h1 : mayB V.items = true) (h2 : 1 ≤ V.blocks.length ∧ V.blocks.length ≤ 32)
    (h3 : ∀ (k : Nat) (z : Int), k < V.blocks.length → V.blocks[k]? = some z → blockB V.items z = true) (h4 : ∀ (k : Nat) (x : It), k < V.items.length → V.items[k]? = some x → usesB V.blocks x = true) : volB V = true := by
  simp only [volB, h1, decide_eq_true h2, all_at h3, all_at h4, Bool.and_self]

theorem count_snoc {Z : List Int} {k : Nat} {z y : Int} (hz : Z[k]? = some z) : (Z.take (k + 1)).count y = (Z.take k).count y + (if z = y then 1 else 0) := by
  rw [take_snoc hz, List.count_append, List.count_singleton]
  simp [beq_iff_eq]

end Go.Proofs.Ythjaanhkmfiajac

/- A row of integers that a call owns, told by a list of integers: append of one, of a whole slice; a cell's store. No condition. -/
namespace Go.Proofs.Ythjaanhkmfiajac
open Go.RowKit

def zcells (Z : List Int) : List Value := Z.map (.int .i64)
theorem zcells_one (Z : List Int) : ∀ u ∈ zcells Z, u.oneCell' = true := by
  intro u h
  obtain ⟨z, _, rfl⟩ := List.mem_map.1 h
  rfl

/-- v is the call's own row of the integers Z -/
def OwnZ (B : Nat) (e : TypeId) (v : Value) (Z : List Int) (W0 w : World) : Prop := w.ownsRow B e 1 v Z.length (zcells Z) ∧ Below B W0 w ∧ B ≤ w.heap.size

theorem OwnZ.nil {B : Nat} {e : TypeId} {W0 w : World} (hb : Below B W0 w) (h : B ≤ w.heap.size) : OwnZ B e (.slice none 0 0) [] W0 w := ⟨World.ownsRow_nil _ _ _ _, hb, h⟩
theorem OwnZ.below {B : Nat} {e : TypeId} {v : Value} {L : List Int} {W0 w : World} (h : OwnZ B e v L W0 w) : Below B W0 w := h.2.1
theorem OwnZ.alloc {B : Nat} {e : TypeId} {v : Value} {L : List Int} {W0 w : World} (h : OwnZ B e v L W0 w) (o : Obj) : OwnZ B e v L W0 (w.alloc o) := ⟨h.1.alloc o, h.2.1.alloc h.2.2 o, Nat.le_trans h.2.2 (by simp)⟩
theorem OwnZ.cast {B : Nat} {e : TypeId} {v : Value} {l l' : List Int} {W0 w : World} (h : OwnZ B e v l W0 w) (hl : l = l') : OwnZ B e v l' W0 w := hl ▸ h
theorem OwnZ.grown {B : Nat} {e : TypeId} {v v' : Value} {L L' : List Int} {W0 w w' : World} (h : OwnZ B e v L W0 w) (ho : w'.ownsRow B e 1 v' L'.length (zcells L')) (hg : w.grownBy w' v.ownBlock) : OwnZ B e v' L' W0 w' :=
  ⟨ho, h.2.1.grown hg h.2.2 (fun k hk => (h.1.lt k hk).1), Nat.le_trans h.2.2 hg.size⟩
theorem OwnZ.past {B : Nat} {e : TypeId} {v : Value} {l : List Int} {W0 w w' : World} (h : OwnZ B e v l W0 w) (hb : Below w.heap.size w w') : OwnZ B e v l W0 w' := by
  obtain ⟨h1, h2, h3⟩ := h
  refine ⟨⟨h1.1, ?_⟩, h2.trans (hb.mono h3), Nat.le_trans h3 hb.size⟩
  rcases h1.2 with hn | ⟨g, cap, cur, hv, hB, hg, rest⟩
  · exact .inl hn
  · exact .inr ⟨g, cap, cur, hv, hB, by rw [hb.block g (Array.getElem?_eq_some_iff.1 hg).1]; exact hg, rest⟩
theorem OwnZ.drewN {B : Nat} {e : TypeId} {v : Value} {l : List Int} {W0 w : World} (h : OwnZ B e v l W0 w) (n : Nat) : OwnZ B e v l W0 (w.drewN n) := ⟨h.1, below_dr h.2.1 n, h.2.2⟩
theorem OwnZ.drew {B : Nat} {e : TypeId} {v : Value} {l : List Int} {W0 w : World} (h : OwnZ B e v l W0 w) : OwnZ B e v l W0 w.drew := ⟨h.1, h.2.1.drew, h.2.2⟩
theorem OwnZ.lower {B B' : Nat} {e : TypeId} {v : Value} {L : List Int} {W0 W1 w : World} (h : OwnZ B' e v L W1 w) (hB : B ≤ B') (hb : Below B W0 W1) : OwnZ B e v L W0 w := by
  obtain ⟨h1, h2, h3⟩ := h
  refine ⟨⟨h1.1, ?_⟩, hb.trans (h2.mono hB), Nat.le_trans hB h3⟩
  rcases h1.2 with hn | ⟨g, cap, cur, hv, hg, rest⟩
  · exact .inl hn
  · exact .inr ⟨g, cap, cur, hv, Nat.le_trans hB hg, rest⟩
theorem OwnZ.shape {B : Nat} {e : TypeId} {v : Value} {L : List Int} {W0 w : World} (h : OwnZ B e v L W0 w) (hne : 0 < L.length) : ∃ g cap, v = .slice (some ⟨g, 0, none⟩) L.length cap ∧ B ≤ g ∧ g < w.heap.size ∧ L.length ≤ cap := by
  rcases h.1.2 with ⟨_, hn⟩ | ⟨g, cap, cur, rfl, hB, hg, hcap, _⟩
  · omega
  · exact ⟨g, cap, rfl, hB, (Array.getElem?_eq_some_iff.1 hg).1, hcap⟩
theorem OwnZ.cell {B g cap n : Nat} {e : TypeId} {L : List Int} {W0 w : World} (h : OwnZ B e (.slice (some ⟨g, 0, none⟩) n cap) L W0 w) {k : Nat} {z : Int} (hx : L[k]? = some z) :
    w.cell? ⟨g, k, none⟩ = some (.int .i64 z) ∧ (∀ j, w.frozen? ⟨g, j, none⟩ = false) ∧ n = L.length := by
  have hk := (List.getElem?_eq_some_iff.1 hx).1
  have hnL : n = L.length := by
    rcases h.1.2 with ⟨h', _⟩ | ⟨g', cap', cur, h', _⟩
    · cases h'
    · cases h'; rfl
  subst hnL
  refine ⟨(h.1.cellAt k (by omega)).trans ?_, h.1.frozenAt, rfl⟩
  unfold zcells
  rw [List.getElem?_map, hx]
  rfl
/-- read as any slice of integers -/
theorem OwnZ.ints {B : Nat} {e : TypeId} {v : Value} {L : List Int} {W0 w : World} (h : OwnZ B e v L W0 w) (hl : L.length ≤ 140737488355328) : IntsAt w v L := by
  have h' := h
  obtain ⟨h1, _, _⟩ := h'
  rcases h1.2 with ⟨rfl, hn⟩ | ⟨g, cap, cur, rfl, hB, hg, hcap, _, _, htk⟩
  · have : L = [] := List.eq_nil_of_length_eq_zero hn
    subst this
    exact ⟨none, 0, rfl, hl, fun _ => rfl, fun i x hx => by simp at hx⟩
  · refine ⟨some ⟨g, 0, none⟩, cap, rfl, hl, (fun h => by cases h), fun i x hx => ⟨g, 0, rfl, (Array.getElem?_eq_some_iff.1 hg).1, ?_⟩⟩
    rw [Nat.zero_add]
    exact (h.cell hx).1
/-- 'out[k] = z' -/
theorem OwnZ.set {B g cap n : Nat} {e : TypeId} {L : List Int} {W0 w : World} (h : OwnZ B e (.slice (some ⟨g, 0, none⟩) n cap) L W0 w) {k : Nat} (hk : k < L.length) (z : Int) :
    OwnZ B e (.slice (some ⟨g, 0, none⟩) n cap) (L.set k z) W0 (w.setCell ⟨g, k, none⟩ (.int .i64 z)) := by
  obtain ⟨_, _, rfl⟩ := h.cell (List.getElem?_eq_getElem hk)
  obtain ⟨h1, h2⟩ := h.1.stored k (.int .i64 z)
  have e1 : (zcells L).set k (.int .i64 z) = zcells (L.set k z) := by unfold zcells; rw [List.map_set]
  rw [e1] at h1
  have hg : B ≤ g := (h.1.lt g rfl).1
  refine ⟨by rw [List.length_set]; exact h1, h.2.1.setCell (p := ⟨g, _, none⟩) hg _, Nat.le_trans h.2.2 h2.size⟩

theorem grown_two {w w1 w2 : World} {row : Option Nat} (h1 : w.grownBy w1 row) (h2 : w1.grownBy w2 row) : w.grownBy w2 row :=
  ⟨h2.os.trans h1.os, h2.tape.trans h1.tape, h2.output.trans h1.output, Nat.le_trans h1.size h2.size, fun k hk hne => (h2.block k (Nat.lt_of_lt_of_le hk h1.size) hne).trans (h1.block k hk hne)⟩

section
variable {P : Program}
theorem wpList_own_int {ops : Array Oper} {rest : List Oper} {o : Oper} {a : Act} {Q : Exit → Act → World → Prop} (hgd : o.guard = none) (s x : Operand) (t : TypeId)
    (ho : o.op = .call { callee := .builtin .append, args := #[s, x], argTypes := #[t, t] })
    (B : Nat) (e : TypeId) (i : TypeInfo) (z : Value) (ht : P.underlying t = some (.slice e)) (hi : P.info? e = some i) (hz : i.zero = some z) (hzs : z.cells.size = 1) (hsize : i.size = 1) (hby : i.bytes = 8)
    (v : Value) (L : List Int) (hs : a.eval s = v) (W0 w0 : World) (y : Int) (hb : OwnZ B e v L W0 w0)
    (g : Nat) (hx : a.eval x = .slice (some ⟨g, 0, none⟩) 1 1) (hgw : g = w0.heap.size) (hlen : L.length + 1 ≤ 1000000)
    (h : ∀ v' w', OwnZ B e v' (L ++ [y]) W0 w' → w0.grownBy w' v.ownBlock → wpList P ops Q rest (a.put o.dst v') w') : wpList P ops Q (o :: rest) a (w0.alloc (.cells #[.int .i64 y] e)) := by
  subst hgw
  have hb' := hb.alloc (.cells #[.int .i64 y] e)
  refine wpList_append_own _ hgd s x t ho B e i z 1 8 ht hi hz hsize hby hzs (by decide) v L.length (zcells L) hs hb'.1 ⟨w0.heap.size, 0, none⟩ 1 1 (zcells [y]) hx rfl ?_ (zcells_one _) (by unfold maxLen; omega) (by omega) hb'.2.2 ?_
  · intro j u hj
    match j, hj with
    | 0, hj => simp [zcells] at hj; subst hj; simp [Addr.add]
    | j + 1, hj => simp [zcells] at hj
  · intro v' w' ho' hg _
    exact h v' w' (hb'.grown (by rw [zcells, List.map_append, List.length_append]; exact ho') hg) (grown_two (World.grownBy_alloc w0 _ _) hg)
theorem wpList_own_ints {ops : Array Oper} {rest : List Oper} {o : Oper} {a : Act} {Q : Exit → Act → World → Prop} {w : World} (hgd : o.guard = none) (s x : Operand) (t : TypeId)
    (ho : o.op = .call { callee := .builtin .append, args := #[s, x], argTypes := #[t, t] })
    (B : Nat) (e : TypeId) (i : TypeInfo) (z : Value) (ht : P.underlying t = some (.slice e)) (hi : P.info? e = some i) (hz : i.zero = some z) (hzs : z.cells.size = 1) (hsize : i.size = 1) (hby : i.bytes = 8)
    (v : Value) (L : List Int) (hs : a.eval s = v) (W0 : World) (M : List Int) (vm : Value) (hb : OwnZ B e v L W0 w) (hm : IntsAt w vm M)
    (hx : a.eval x = vm) (hlen : (L.length + M.length) * 8 ≤ 140737488355328)
    (h : ∀ v' w', OwnZ B e v' (L ++ M) W0 w' → wpList P ops Q rest (a.put o.dst v') w') : wpList P ops Q (o :: rest) a w := by
  obtain ⟨p, cap, rfl, hl, hn, hc⟩ := hm
  cases p with
  | none =>
    have : M = [] := by
      cases M with
      | nil => rfl
      | cons y M => obtain ⟨_, _, hp, _⟩ := hc 0 y rfl; cases hp
    subst this
    rw [hn rfl] at hx
    refine wpList_append_own_none hgd s x t ho B e i 1 ht hi v L.length (zcells L) hs hb.1 hx ?_
    exact h v w (hb.cast (by simp))
  | some ad =>
    refine wpList_append_own _ hgd s x t ho B e i z 1 8 ht hi hz hsize hby hzs (by decide) v L.length (zcells L) hs hb.1 ad M.length cap (zcells M) hx (by simp [zcells]) ?_ (zcells_one _) (by unfold maxLen; omega) hlen hb.2.2 ?_
    · intro j u hj
      unfold zcells at hj
      rw [List.getElem?_map] at hj
      cases hz' : M[j]? with
      | none => rw [hz'] at hj; simp at hj
      | some z' =>
        rw [hz'] at hj
        simp at hj
        subst hj
        obtain ⟨b, off, hp, _, c0⟩ := hc j z' hz'
        cases hp
        rw [Addr.add_lit]
        exact c0
    · intro v' w' ho' hg _
      exact h v' w' (hb.grown (by rw [zcells, List.map_append, List.length_append]; exact ho') hg)
end
end Go.Proofs.Ythjaanhkmfiajac

/- Volumes as plain data: what applying writes does to them (P3.1, P3.3, P3.4), and that a small valid volume never refuses. No program's run; no condition but those in the statements. -/
namespace Go.Proofs.Ythjaanhkmfiajac
open Go.RowKit

/-- a write -/
structure Wr where
  block : Int
  data : ByteArray

/-- P3.3, one write behind the preceding one -/
def wOne (n : Int) (prev : Option Int) (x : Wr) : Int :=
  if ¬ (0 ≤ x.block ∧ x.block ≤ n - 1) then 6 else if 48 < x.data.size then 1 else
    match prev with
    | some p => if x.block ≤ p then 4 else 0
    | none => 0
def wRest (n : Int) : Option Int → List Wr → Int
  | _, [] => 0
  | prev, x :: W => if wOne n prev x = 0 then wRest n (some x.block) W else wOne n prev x
/-- P3.3 -/
def wFault (W : List Wr) (n : Int) : Int := if 12 < W.length then 1 else wRest n none W

/-- P3.4 -/
def dropW (V : Vol) (x : Wr) : Vol := match V.blocks[x.block.toNat]? with
  | some z => if 0 ≤ z then ⟨(dropped V.items z).1, V.blocks.set x.block.toNat (-1)⟩ else V
  | none => V
def keepW (V : Vol) (x : Wr) : Vol × Int :=
  if 0 < x.data.size then
    if (kept V.items x.data).2.2 = 0 then (⟨(kept V.items x.data).1, V.blocks.set x.block.toNat (kept V.items x.data).2.1⟩, 0) else (⟨[], []⟩, (kept V.items x.data).2.2)
  else (V, 0)
def keepAll (V : Vol) : List Wr → Vol × Int
  | [] => (V, 0)
  | x :: W => if (keepW V x).2 = 0 then keepAll (keepW V x).1 W else (⟨[], []⟩, (keepW V x).2)
def applied (V : Vol) (W : List Wr) : Vol × Int :=
  if volB V = false then (⟨[], []⟩, 7)
  else if wFault W V.blocks.length ≠ 0 then (⟨[], []⟩, wFault W V.blocks.length)
  else keepAll (W.foldl dropW V) W

/-! ### what validity says of members -/
structure VOk (V : Vol) : Prop where
  may : mayB V.items = true
  len : 1 ≤ V.blocks.length ∧ V.blocks.length ≤ 32
  blk : ∀ z ∈ V.blocks, z = -1 ∨ ∃ x ∈ V.items, x.id = z
  use : ∀ x ∈ V.items, (V.blocks.count x.id : Int) = x.refs ∧ 0 < x.data.size

theorem pos_mem {L : List It} {z : Int} : (pos L z).isSome = true ↔ ∃ x ∈ L, x.id = z := by
  constructor
  · intro h
    obtain ⟨k, hk⟩ := Option.isSome_iff_exists.1 h
    obtain ⟨x, hx, hid⟩ := pos_lt hk
    exact ⟨x, List.mem_of_getElem? hx, hid⟩
  · intro ⟨x, hx, hid⟩
    cases hp : pos L z with
    | some k => rfl
    | none =>
      unfold pos at hp
      rw [List.findIdx?_eq_none_iff] at hp
      have := hp x hx
      simp [hid] at this
theorem may_mem {L : List It} (h : mayB L = true) {x : It} (hx : x ∈ L) : 0 ≤ x.id ∧ x.id ≤ 23 ∧ x.data.size ≤ 48 ∧ 1 ≤ x.refs ∧ x.refs ≤ 32 := by
  obtain ⟨j, hj⟩ := List.getElem?_of_mem hx
  exact may_ok h hj
theorem may_pw {L : List It} (h : mayB L = true) : L.Pairwise Ahead := by
  simp only [mayB, Bool.and_eq_true, decide_eq_true_eq] at h
  exact h.2.2
theorem may_id {L : List It} (h : mayB L = true) {x y : It} (hx : x ∈ L) (hy : y ∈ L) (he : x.id = y.id) : x = y := by
  obtain ⟨i, hi⟩ := List.getElem?_of_mem hx
  obtain ⟨j, hj⟩ := List.getElem?_of_mem hy
  rcases Nat.lt_trichotomy i j with hl | rfl | hl
  · have := (may_apart h hl hi hj).1; omega
  · rw [hi] at hj; exact Option.some.inj hj
  · have := (may_apart h hl hj hi).1; omega
theorem may_data {L : List It} (h : mayB L = true) {x y : It} (hx : x ∈ L) (hy : y ∈ L) (he : x.data = y.data) : x = y := by
  obtain ⟨i, hi⟩ := List.getElem?_of_mem hx
  obtain ⟨j, hj⟩ := List.getElem?_of_mem hy
  rcases Nat.lt_trichotomy i j with hl | rfl | hl
  · exact absurd he (may_apart h hl hi hj).2
  · rw [hi] at hj; exact Option.some.inj hj
  · exact absurd he.symm (may_apart h hl hj hi).2
theorem pw_ge {L : List It} (hok : ∀ x ∈ L, okB x = true) (hp : L.Pairwise Ahead) : ∀ (j : Nat) (y : It), L[j]? = some y → (j : Int) ≤ y.id
  | 0, y, hy => by
    have := hok y (List.mem_of_getElem? hy)
    simp only [okB, Bool.and_eq_true, decide_eq_true_eq] at this
    omega
  | j + 1, y, hy => by
    obtain ⟨hj, he⟩ := List.getElem?_eq_some_iff.1 hy
    have ih := pw_ge hok hp j _ (List.getElem?_eq_getElem (l := L) (i := j) (by omega))
    have ha := ((List.pairwise_iff_getElem.1 hp) j (j + 1) (by omega) hj (by omega)).1
    rw [he] at ha
    omega
theorem may_of {L : List It} (hok : ∀ x ∈ L, okB x = true) (hp : L.Pairwise Ahead) : mayB L = true := by
  have hl : L.length ≤ 24 := by
    by_cases h : L.length ≤ 24
    · exact h
    · have hx := List.getElem?_eq_getElem (l := L) (i := 24) (by omega)
      have h1 := pw_ge hok hp 24 _ hx
      have h2 := hok _ (List.mem_of_getElem? hx)
      simp only [okB, Bool.and_eq_true, decide_eq_true_eq] at h2
      omega
  simp only [mayB, Bool.and_eq_true, decide_eq_true_eq, List.all_eq_true]
  exact ⟨hl, hok, hp⟩
theorem okB_of {x : It} (h : 0 ≤ x.id ∧ x.id ≤ 23 ∧ x.data.size ≤ 48 ∧ 1 ≤ x.refs ∧ x.refs ≤ 32) : okB x = true := by
  simp only [okB, Bool.and_eq_true, decide_eq_true_eq]
  omega

theorem volB_iff {V : Vol} : volB V = true ↔ VOk V := by
  constructor
  · intro h
    simp only [volB, Bool.and_eq_true, decide_eq_true_eq, List.all_eq_true] at h
    obtain ⟨⟨⟨h1, h2⟩, h3⟩, h4⟩ := h
    refine ⟨h1, h2, fun z hz => ?_, fun x hx => ?_⟩
    · have := h3 z hz
      simp only [blockB, Bool.or_eq_true, Bool.and_eq_true, decide_eq_true_eq] at this
      rcases this with h | ⟨_, h⟩
      · exact Or.inl h
      · exact Or.inr (pos_mem.1 h)
    · have := h4 x hx
      simpa only [usesB, Bool.and_eq_true, decide_eq_true_eq] using this
  · intro h
    simp only [volB, Bool.and_eq_true, decide_eq_true_eq, List.all_eq_true]
    refine ⟨⟨⟨h.may, h.len⟩, fun z hz => ?_⟩, fun x hx => ?_⟩
    · simp only [blockB, Bool.or_eq_true, Bool.and_eq_true, decide_eq_true_eq]
      rcases h.blk z hz with h1 | ⟨x, hx, hid⟩
      · exact Or.inl h1
      · exact Or.inr ⟨by have := (may_mem h.may hx).1; omega, pos_mem.2 ⟨x, hx, hid⟩⟩
    · simp only [usesB, Bool.and_eq_true, decide_eq_true_eq]
      exact h.use x hx

/-- block b reads as d -/
def RdIs (V : Vol) (b : Nat) (d : ByteArray) : Prop := ∃ z, V.blocks[b]? = some z ∧ ((z = -1 ∧ d = ⟨#[]⟩) ∨ ∃ x ∈ V.items, x.id = z ∧ x.data = d)
def rd (V : Vol) (b : Nat) : ByteArray :=
  match V.blocks[b]? with
  | some z => if z < 0 then ⟨#[]⟩ else match pos V.items z with
    | some q => (V.items[q]?.getD It.zero).data
    | none => ⟨#[]⟩
  | none => ⟨#[]⟩
theorem rd_is {V : Vol} (h : VOk V) {b : Nat} (hb : b < V.blocks.length) : RdIs V b (rd V b) := by
  have hz := List.getElem?_eq_getElem (l := V.blocks) (i := b) hb
  refine ⟨_, hz, ?_⟩
  rcases h.blk _ (List.mem_of_getElem? hz) with h1 | ⟨x, hx, hid⟩
  · refine Or.inl ⟨h1, ?_⟩
    unfold rd
    rw [hz, h1]
    simp
  · right
    have hx0 := (may_mem h.may hx).1
    obtain ⟨k, hk⟩ := Option.isSome_iff_exists.1 (pos_mem.2 ⟨x, hx, hid⟩)
    obtain ⟨y, hy, hyid⟩ := pos_lt hk
    have hxy := may_id h.may hx (List.mem_of_getElem? hy) (by omega)
    subst hxy
    refine ⟨x, hx, hid, ?_⟩
    unfold rd
    rw [hz]
    simp only
    rw [if_neg (by omega), hk]
    simp [hy]
theorem rd_eq {V : Vol} (h : VOk V) {b : Nat} {d : ByteArray} (hr : RdIs V b d) : rd V b = d := by
  obtain ⟨z, hz, hd⟩ := hr
  unfold rd
  rw [hz]
  rcases hd with ⟨rfl, rfl⟩ | ⟨x, hx, hid, rfl⟩
  · simp
  · have hx0 := (may_mem h.may hx).1
    obtain ⟨k, hk⟩ := Option.isSome_iff_exists.1 (pos_mem.2 ⟨x, hx, hid⟩)
    obtain ⟨y, hy, hyid⟩ := pos_lt hk
    have hxy := may_id h.may hx (List.mem_of_getElem? hy) (by omega)
    subst hxy
    simp only
    rw [if_neg (by omega), hk]
    simp [hy]
end Go.Proofs.Ythjaanhkmfiajac

/- Volumes as plain data: one drop, one keep, and all of a transaction's writes on a valid volume of at most sixteen blocks: it stays valid and reads as it should. No program's run; no condition but those in the statements. -/
namespace Go.Proofs.Ythjaanhkmfiajac
open Go.RowKit

theorem count_set (z v : Int) : ∀ (Z : List Int) (b : Nat), b < Z.length → (Z.set b v).count z + (if Z[b]? = some z then 1 else 0) = Z.count z + (if v = z then 1 else 0)
  | [], b, h => by simp at h
  | a :: Z, 0, _ => by
    simp only [List.set_cons_zero, List.count_cons, List.getElem?_cons_zero, Option.some.injEq, beq_iff_eq]
    omega
  | a :: Z, b + 1, h => by
    have ih := count_set z v Z b (by simpa using h)
    simp only [List.set_cons_succ, List.count_cons, List.getElem?_cons_succ]
    omega

theorem set_get {Z : List Int} {b : Nat} (hb : b < Z.length) (v : Int) : (Z.set b v)[b]? = some v := by simp [hb]
theorem set_other {Z : List Int} {b b' : Nat} (h : b' ≠ b) (v : Int) : (Z.set b v)[b']? = Z[b']? := by rw [List.getElem?_set_ne (Ne.symm h)]

/-! ### one drop -/
theorem dropped_eq {V : Vol} (h : VOk V) {b : Nat} {z : Int} (hz : V.blocks[b]? = some z) (h0 : 0 ≤ z) : (dropped V.items z).1 = V.items.filterMap (dropOne z) := by
  rcases h.blk z (List.mem_of_getElem? hz) with h1 | hx
  · omega
  · obtain ⟨k, hk⟩ := Option.isSome_iff_exists.1 (pos_mem.2 hx)
    obtain ⟨y, hy, _⟩ := pos_lt hk
    unfold dropped
    rw [got_some h.may hk hy, if_neg (by simp)]
theorem drop_from {z : Int} {x x' : It} (h : dropOne z x = some x') : x'.id = x.id ∧ x'.data = x.data ∧ x'.refs = (if x.id = z then x.refs - 1 else x.refs) ∧ 1 ≤ x'.refs := by
  unfold dropOne at h
  split at h
  · split at h
    · cases h
      rename_i h1 h2
      exact ⟨rfl, rfl, by rw [if_pos h1], by show 1 ≤ x.refs - 1; omega⟩
    · cases h
  · split at h
    · cases h
      rename_i h1 h2
      exact ⟨rfl, rfl, by rw [if_neg h1], by omega⟩
    · cases h
theorem drop_to {z : Int} {x : It} (h1 : 1 ≤ x.refs) (h : x.id ≠ z ∨ 2 ≤ x.refs) : ∃ x', dropOne z x = some x' := by
  unfold dropOne
  by_cases hz : x.id = z
  · rw [if_pos hz, if_pos (by omega)]
    exact ⟨_, rfl⟩
  · rw [if_neg hz, if_pos (by omega)]
    exact ⟨_, rfl⟩

theorem drop_ok {V : Vol} (h : VOk V) {b : Nat} {z : Int} (hz : V.blocks[b]? = some z) (h0 : 0 ≤ z) :
    VOk ⟨(dropped V.items z).1, V.blocks.set b (-1)⟩ ∧ RdIs ⟨(dropped V.items z).1, V.blocks.set b (-1)⟩ b ⟨#[]⟩ ∧
    ∀ (b' : Nat) (d : ByteArray), b' ≠ b → RdIs V b' d → RdIs ⟨(dropped V.items z).1, V.blocks.set b (-1)⟩ b' d := by
  have hb := (List.getElem?_eq_some_iff.1 hz).1
  rw [dropped_eq h hz h0]
  have hcz : (V.blocks.set b (-1)).count z + 1 = V.blocks.count z := by
    have := count_set z (-1) V.blocks b hb
    rw [if_pos hz, if_neg (by omega)] at this
    omega
  have hco : ∀ y : Int, y ≠ z → 0 ≤ y → (V.blocks.set b (-1)).count y = V.blocks.count y := by
    intro y hy hy0
    have := count_set y (-1) V.blocks b hb
    rw [if_neg (by rw [hz]; intro e; exact hy (Option.some.inj e).symm), if_neg (by omega)] at this
    omega
  -- whoever is still referred to stays
  have stay : ∀ x ∈ V.items, (∃ b' : Nat, b' ≠ b ∧ V.blocks[b']? = some x.id) → ∃ x' ∈ V.items.filterMap (dropOne z), x'.id = x.id ∧ x'.data = x.data := by
    intro x hx ⟨b', hne, hb'⟩
    have hm := may_mem h.may hx
    obtain ⟨x', hx'⟩ := drop_to (z := z) (x := x) hm.2.2.2.1 (by
      by_cases he : x.id = z
      · right
        have h1 : x.id ∈ V.blocks.set b (-1) := List.mem_of_getElem? (i := b') (by rw [set_other hne]; exact hb')
        have h2 : 0 < (V.blocks.set b (-1)).count x.id := List.count_pos_iff.2 h1
        have h3 := (h.use x hx).1
        rw [he] at h2 h3
        omega
      · exact Or.inl he)
    have hf := drop_from hx'
    exact ⟨x', List.mem_filterMap.2 ⟨x, hx, hx'⟩, hf.1, hf.2.1⟩
  refine ⟨⟨?_, ?_, ?_, ?_⟩, ⟨-1, set_get hb _, Or.inl ⟨rfl, rfl⟩⟩, ?_⟩
  · refine may_of (fun x' hx' => ?_) ?_
    · obtain ⟨x, hx, hd⟩ := List.mem_filterMap.1 hx'
      have hf := drop_from hd
      have hm := may_mem h.may hx
      refine okB_of ⟨by rw [hf.1]; exact hm.1, by rw [hf.1]; exact hm.2.1, by rw [hf.2.1]; exact hm.2.2.1, hf.2.2.2, ?_⟩
      rw [hf.2.2.1]; split <;> omega
    · refine List.Pairwise.filterMap _ (fun a a' ha c hc c' hc' => ?_) (may_pw h.may)
      have h1 := drop_from hc
      have h2 := drop_from hc'
      exact ⟨by rw [h1.1, h2.1]; exact ha.1, by rw [h1.2.1, h2.2.1]; exact ha.2⟩
  · simpa using h.len
  · intro y hy
    obtain ⟨b', hb'⟩ := List.getElem?_of_mem hy
    by_cases hne : b' = b
    · subst hne
      rw [set_get hb] at hb'
      exact Or.inl (Option.some.inj hb').symm
    · rw [set_other hne] at hb'
      rcases h.blk y (List.mem_of_getElem? hb') with h1 | ⟨x, hx, hid⟩
      · exact Or.inl h1
      · obtain ⟨x', hx', h1, _⟩ := stay x hx ⟨b', hne, by rw [hid]; exact hb'⟩
        exact Or.inr ⟨x', hx', by rw [h1]; exact hid⟩
  · intro x' hx'
    obtain ⟨x, hx, hd⟩ := List.mem_filterMap.1 hx'
    have hf := drop_from hd
    have hu := h.use x hx
    have hm := may_mem h.may hx
    refine ⟨?_, by rw [hf.2.1]; exact hu.2⟩
    show ((V.blocks.set b (-1)).count x'.id : Int) = x'.refs
    rw [hf.1, hf.2.2.1]
    by_cases he : x.id = z
    · rw [if_pos he, he]
      rw [he] at hu
      omega
    · rw [if_neg he, hco x.id he hm.1]
      exact hu.1
  · intro b' d hne ⟨y, hy, hd⟩
    refine ⟨y, by show (V.blocks.set b (-1))[b']? = _; rw [set_other hne]; exact hy, ?_⟩
    rcases hd with h1 | ⟨x, hx, hid, hxd⟩
    · exact Or.inl h1
    · obtain ⟨x', hx', h1, h2⟩ := stay x hx ⟨b', hne, by rw [hid]; exact hy⟩
      exact Or.inr ⟨x', hx', by rw [h1]; exact hid, by rw [h2]; exact hxd⟩

/-! ### one keep -/
theorem gap_ex (L : List It) : ∃ k, Gap L k := by
  have h : ∀ m, m ≤ L.length → (∃ k, Gap L k) ∨ ∀ (j : Nat) (y : It), j < m → L[j]? = some y → y.id = (j : Int) := by
    intro m
    induction m with
    | zero => intro _; exact Or.inr (fun j y hj => absurd hj (by omega))
    | succ m ih =>
      intro hm
      rcases ih (by omega) with h | h
      · exact Or.inl h
      · have hx := List.getElem?_eq_getElem (l := L) (i := m) (by omega)
        by_cases he : L[m].id = (m : Int)
        · right
          intro j y hj hy
          by_cases hjm : j < m
          · exact h j y hjm hy
          · obtain rfl : j = m := by omega
            rw [hx] at hy; cases hy; exact he
        · exact Or.inl ⟨m, by omega, h, fun x hx' => by rw [hx] at hx'; cases hx'; exact he⟩
  rcases h L.length (Nat.le_refl _) with h | h
  · exact h
  · exact ⟨L.length, Nat.le_refl _, h, fun x hx => by simp at hx⟩
theorem nodup_len : ∀ (A Z : List Int), A.Nodup → (∀ a ∈ A, a ∈ Z) → A.length ≤ Z.length
  | [], _, _, _ => by simp
  | a :: A, Z, hn, hs => by
    obtain ⟨h1, h2⟩ := List.nodup_cons.1 hn
    have ha := hs a (by simp)
    have ih := nodup_len A (Z.erase a) h2 (fun c hc => (List.mem_erase_of_ne (fun e => h1 (by rw [← e]; exact hc))).2 (hs c (by simp [hc])))
    rw [List.length_erase_of_mem ha] at ih
    have := List.length_pos_of_mem ha
    simp only [List.length_cons]
    omega
theorem items_le {V : Vol} (h : VOk V) : V.items.length ≤ V.blocks.length := by
  have := nodup_len (V.items.map It.id) V.blocks (by
    rw [List.nodup_iff_pairwise_ne, List.pairwise_map]
    exact (may_pw h.may).imp (fun ha => by have := ha.1; omega)) (fun a ha => by
    obtain ⟨x, hx, rfl⟩ := List.mem_map.1 ha
    have hu := (h.use x hx).1
    have hm := may_mem h.may hx
    exact List.count_pos_iff.1 (by omega))
  simpa using this

theorem set_as_map {L : List It} (hm : mayB L = true) {k : Nat} {x : It} (hx : L[k]? = some x) : L.set k { x with refs := x.refs + 1 } = L.map (fun y => if y.id = x.id then { y with refs := y.refs + 1 } else y) := by
  apply List.ext_getElem?
  intro i
  rw [List.getElem?_map]
  have hk := (List.getElem?_eq_some_iff.1 hx).1
  by_cases hik : i = k
  · subst hik
    rw [hx]
    simp [hk]
  · rw [List.getElem?_set_ne (Ne.symm hik)]
    cases hy : L[i]? with
    | none => rfl
    | some y =>
      have hne : y.id ≠ x.id := by
        rcases Nat.lt_or_gt_of_ne hik with hl | hl
        · have := (may_apart hm hl hy hx).1; omega
        · have := (may_apart hm hl hx hy).1; omega
      simp [hne]

theorem keep_any {V : Vol} (h : VOk V) {b : Nat} (hz : V.blocks[b]? = some (-1)) {d : ByteArray} (hd : 0 < d.size) (hd48 : d.size ≤ 48) (hk : (kept V.items d).2.2 = 0) :
    (kept V.items d).2.2 = 0 ∧ VOk ⟨(kept V.items d).1, V.blocks.set b (kept V.items d).2.1⟩ ∧ RdIs ⟨(kept V.items d).1, V.blocks.set b (kept V.items d).2.1⟩ b d ∧
    ∀ (b' : Nat) (e : ByteArray), b' ≠ b → RdIs V b' e → RdIs ⟨(kept V.items d).1, V.blocks.set b (kept V.items d).2.1⟩ b' e := by
  have hb := (List.getElem?_eq_some_iff.1 hz).1
  have hil := items_le h
  cases hp : posData V.items d with
  | some k =>
    obtain ⟨x, hx, hxd⟩ := posData_lt hp
    have hxm := List.mem_of_getElem? hx
    have hr : ¬ 32 ≤ x.refs := by
      intro hr
      rw [kept_old h.may (by omega) hp hx, if_pos hr] at hk
      cases hk
    clear hk
    have hx0 := (may_mem h.may hxm).1
    rw [kept_old h.may (by omega) hp hx, if_neg hr]
    simp only
    rw [set_as_map h.may hx]
    have hcx : (V.blocks.set b x.id).count x.id = V.blocks.count x.id + 1 := by
      have := count_set x.id x.id V.blocks b hb
      rw [hz, if_neg (by intro e; have := Option.some.inj e; omega), if_pos rfl] at this
      omega
    have hco : ∀ y : Int, y ≠ x.id → 0 ≤ y → (V.blocks.set b x.id).count y = V.blocks.count y := by
      intro y hy hy0
      have := count_set y x.id V.blocks b hb
      rw [hz, if_neg (by intro e; have := Option.some.inj e; omega), if_neg (Ne.symm hy)] at this
      omega
    have stay : ∀ y ∈ V.items, ∃ y' ∈ V.items.map (fun y => if y.id = x.id then { y with refs := y.refs + 1 } else y), y'.id = y.id ∧ y'.data = y.data := by
      intro y hy
      refine ⟨_, List.mem_map.2 ⟨y, hy, rfl⟩, ?_⟩
      split <;> exact ⟨rfl, rfl⟩
    have fromI : ∀ y, (if y.id = x.id then { y with refs := y.refs + 1 } else y : It).id = y.id ∧ (if y.id = x.id then { y with refs := y.refs + 1 } else y : It).data = y.data ∧ (if y.id = x.id then { y with refs := y.refs + 1 } else y : It).refs = if y.id = x.id then y.refs + 1 else y.refs := by
      intro y
      split <;> exact ⟨rfl, rfl, rfl⟩
    refine ⟨trivial, ⟨?_, by simpa using h.len, ?_, ?_⟩, ?_, ?_⟩
    · refine may_of (fun y' hy' => ?_) ?_
      · obtain ⟨y, hy, rfl⟩ := List.mem_map.1 hy'
        have hm := may_mem h.may hy
        obtain ⟨f1, f2, f3⟩ := fromI y
        refine okB_of ⟨by rw [f1]; exact hm.1, by rw [f1]; exact hm.2.1, by rw [f2]; exact hm.2.2.1, ?_, ?_⟩
        · rw [f3]; split <;> omega
        · rw [f3]
          split
          · rename_i he
            have : y = x := may_id h.may hy hxm he
            subst this; omega
          · omega
      · rw [List.pairwise_map]
        refine (may_pw h.may).imp (fun {a c} ha => ⟨?_, ?_⟩)
        · rw [(fromI a).1, (fromI c).1]; exact ha.1
        · rw [(fromI a).2.1, (fromI c).2.1]; exact ha.2
    · intro z hzm
      obtain ⟨b', hb'⟩ := List.getElem?_of_mem hzm
      by_cases hne : b' = b
      · subst hne
        rw [set_get hb] at hb'
        obtain ⟨y', hy', h1, _⟩ := stay x hxm
        exact Or.inr ⟨y', hy', by rw [h1]; exact Option.some.inj hb'⟩
      · rw [set_other hne] at hb'
        rcases h.blk z (List.mem_of_getElem? hb') with h1 | ⟨y, hy, hid⟩
        · exact Or.inl h1
        · obtain ⟨y', hy', h1, _⟩ := stay y hy
          exact Or.inr ⟨y', hy', by rw [h1]; exact hid⟩
    · intro y' hy'
      obtain ⟨y, hy, rfl⟩ := List.mem_map.1 hy'
      have hm := may_mem h.may hy
      have hu := h.use y hy
      obtain ⟨f1, f2, f3⟩ := fromI y
      refine ⟨?_, by rw [f2]; exact hu.2⟩
      show ((V.blocks.set b x.id).count _ : Int) = _
      rw [f1, f3]
      by_cases he : y.id = x.id
      · rw [if_pos he, he, hcx]
        rw [he] at hu
        omega
      · rw [if_neg he, hco y.id he hm.1]
        exact hu.1
    · obtain ⟨y', hy', h1, h2⟩ := stay x hxm
      exact ⟨x.id, set_get hb _, Or.inr ⟨y', hy', h1, by rw [h2]; exact hxd⟩⟩
    · intro b' e hne ⟨z, hz', hd'⟩
      refine ⟨z, by show (V.blocks.set b x.id)[b']? = _; rw [set_other hne]; exact hz', ?_⟩
      rcases hd' with h1 | ⟨y, hy, hid, hyd⟩
      · exact Or.inl h1
      · obtain ⟨y', hy', h1, h2⟩ := stay y hy
        exact Or.inr ⟨y', hy', by rw [h1]; exact hid, by rw [h2]; exact hyd⟩
  | none =>
    obtain ⟨n, hg⟩ := gap_ex V.items
    have hn : n ≤ 23 := by
      rw [kept_new h.may (by omega) hp] at hk
      unfold added at hk
      rw [gap_free h.may hg] at hk
      by_cases hc : n ≤ 23
      · exact hc
      · rw [if_pos (by omega)] at hk
        cases hk
    clear hk
    have hnone : ∀ y ∈ V.items, y.id ≠ (n : Int) := by
      intro y hy he
      have := pos_mem.2 ⟨y, hy, he⟩
      rw [gap_pos h.may hg] at this
      cases this
    rw [kept_new h.may (by omega) hp]
    unfold added
    rw [gap_free h.may hg, if_neg (by omega)]
    simp only
    obtain ⟨J, hJ⟩ : ∃ J, J = V.items.filter (fun x => decide (x.id < (n : Int))) ++ [⟨(n : Int), d, 1⟩] ++ V.items.filter (fun x => decide ((n : Int) < x.id)) := ⟨_, rfl⟩
    rw [← hJ]
    have memJ : ∀ y, y ∈ J ↔ y ∈ V.items ∨ y = ⟨(n : Int), d, 1⟩ := by
      intro y
      rw [hJ]
      simp only [List.mem_append, List.mem_filter, decide_eq_true_eq, List.mem_singleton]
      constructor
      · rintro ((⟨h1, _⟩ | h1) | ⟨h1, _⟩)
        · exact Or.inl h1
        · exact Or.inr h1
        · exact Or.inl h1
      · rintro (h1 | h1)
        · have := hnone y h1
          rcases Int.lt_or_gt_of_ne this with hl | hl
          · exact Or.inl (Or.inl ⟨h1, hl⟩)
          · exact Or.inr ⟨h1, hl⟩
        · exact Or.inl (Or.inr h1)
    have hno : ∀ y ∈ V.items, y.data ≠ d := by
      intro y hy
      obtain ⟨j, hj⟩ := List.getElem?_of_mem hy
      exact posData_no hp j y (List.getElem?_eq_some_iff.1 hj).1 hj
    have hcn0 : V.blocks.count (n : Int) = 0 := by
      rw [List.count_eq_zero]
      intro hm
      rcases h.blk _ hm with h1 | ⟨y, hy, hid⟩
      · omega
      · exact hnone y hy hid
    have hcn : (V.blocks.set b (n : Int)).count (n : Int) = 1 := by
      have := count_set (n : Int) (n : Int) V.blocks b hb
      rw [hz, if_neg (by intro e; have := Option.some.inj e; omega), if_pos rfl] at this
      omega
    have hco : ∀ y : Int, y ≠ (n : Int) → 0 ≤ y → (V.blocks.set b (n : Int)).count y = V.blocks.count y := by
      intro y hy hy0
      have := count_set y (n : Int) V.blocks b hb
      rw [hz, if_neg (by intro e; have := Option.some.inj e; omega), if_neg (Ne.symm hy)] at this
      omega
    refine ⟨trivial, ⟨?_, by simpa using h.len, ?_, ?_⟩, ?_, ?_⟩
    · refine may_of (fun y hy => ?_) ?_
      · rcases (memJ y).1 hy with h1 | h1
        · exact okB_of (may_mem h.may h1)
        · subst h1; exact okB_of ⟨by show (0 : Int) ≤ n; omega, by show (n : Int) ≤ 23; omega, hd48, by show (1 : Int) ≤ 1; omega, by show (1 : Int) ≤ 32; omega⟩
      · rw [hJ, List.pairwise_append, List.pairwise_append]
        have hpw := may_pw h.may
        have hah : ∀ y ∈ V.items, ∀ z ∈ V.items, y.id < z.id → Ahead y z := fun y hy z hz hl => ⟨hl, fun he => by have := may_data h.may hy hz he; subst this; omega⟩
        refine ⟨⟨hpw.filter _, by simp, ?_⟩, hpw.filter _, ?_⟩
        · intro y hy z hz'
          simp only [List.mem_filter, decide_eq_true_eq, List.mem_singleton] at hy hz'
          subst hz'
          exact ⟨hy.2, hno y hy.1⟩
        · intro y hy z hz'
          simp only [List.mem_append, List.mem_filter, decide_eq_true_eq, List.mem_singleton] at hy hz'
          rcases hy with hy | hy
          · exact hah y hy.1 z hz'.1 (by omega)
          · subst hy
            exact ⟨hz'.2, fun he => hno z hz'.1 he.symm⟩
    · intro z hzm
      obtain ⟨b', hb'⟩ := List.getElem?_of_mem hzm
      by_cases hne : b' = b
      · subst hne
        rw [set_get hb] at hb'
        exact Or.inr ⟨_, (memJ _).2 (Or.inr rfl), Option.some.inj hb'⟩
      · rw [set_other hne] at hb'
        rcases h.blk z (List.mem_of_getElem? hb') with h1 | ⟨y, hy, hid⟩
        · exact Or.inl h1
        · exact Or.inr ⟨y, (memJ _).2 (Or.inl hy), hid⟩
    · intro y hy
      show ((V.blocks.set b (n : Int)).count y.id : Int) = y.refs ∧ _
      rcases (memJ y).1 hy with h1 | h1
      · have hu := h.use y h1
        have hm := may_mem h.may h1
        exact ⟨by rw [hco y.id (hnone y h1) hm.1]; exact hu.1, hu.2⟩
      · subst h1
        exact ⟨by show ((V.blocks.set b (n : Int)).count (n : Int) : Int) = 1; rw [hcn]; rfl, hd⟩
    · exact ⟨(n : Int), set_get hb _, Or.inr ⟨_, (memJ _).2 (Or.inr rfl), rfl, rfl⟩⟩
    · intro b' e hne ⟨z, hz', hd'⟩
      refine ⟨z, by show (V.blocks.set b (n : Int))[b']? = _; rw [set_other hne]; exact hz', ?_⟩
      rcases hd' with h1 | ⟨y, hy, hid, hyd⟩
      · exact Or.inl h1
      · exact Or.inr ⟨y, (memJ _).2 (Or.inl hy), hid, hyd⟩
/-- at most sixteen blocks: keeping never refuses -/
theorem keep_zero {V : Vol} (h : VOk V) (h16 : V.blocks.length ≤ 16) {d : ByteArray} (hd48 : d.size ≤ 48) : (kept V.items d).2.2 = 0 := by
  have hil := items_le h
  cases hp : posData V.items d with
  | some k =>
    obtain ⟨x, hx, hxd⟩ := posData_lt hp
    have hr : ¬ 32 ≤ x.refs := by
      have := (h.use x (List.mem_of_getElem? hx)).1
      have := List.count_le_length (a := x.id) (l := V.blocks)
      omega
    rw [kept_old h.may (by omega) hp hx, if_neg hr]
  | none =>
    obtain ⟨n, hg⟩ := gap_ex V.items
    rw [kept_new h.may (by omega) hp]
    unfold added
    rw [gap_free h.may hg, if_neg (by have := hg.1; omega)]
theorem keep_ok {V : Vol} (h : VOk V) (h16 : V.blocks.length ≤ 16) {b : Nat} (hz : V.blocks[b]? = some (-1)) {d : ByteArray} (hd : 0 < d.size) (hd48 : d.size ≤ 48) :
    (kept V.items d).2.2 = 0 ∧ VOk ⟨(kept V.items d).1, V.blocks.set b (kept V.items d).2.1⟩ ∧ RdIs ⟨(kept V.items d).1, V.blocks.set b (kept V.items d).2.1⟩ b d ∧
    ∀ (b' : Nat) (e : ByteArray), b' ≠ b → RdIs V b' e → RdIs ⟨(kept V.items d).1, V.blocks.set b (kept V.items d).2.1⟩ b' e := keep_any h hz hd hd48 (keep_zero h h16 hd48)
end Go.Proofs.Ythjaanhkmfiajac

/- Volumes as plain data: all of a transaction's writes on a valid volume of at most sixteen blocks; how many items such a volume has. No program's run; no condition but those in the statements. -/
namespace Go.Proofs.Ythjaanhkmfiajac
open Go.RowKit

/-- writes that may be -/
structure WOk (W : List Wr) (n : Nat) : Prop where
  len : W.length ≤ 12
  all : ∀ x ∈ W, 0 ≤ x.block ∧ x.block < (n : Int) ∧ x.data.size ≤ 48
  up : W.Pairwise (fun x y => x.block < y.block)

theorem wRest_ok {n : Int} : ∀ (W : List Wr) (prev : Option Int), wRest n prev W = 0 →
    (∀ x ∈ W, 0 ≤ x.block ∧ x.block ≤ n - 1 ∧ x.data.size ≤ 48) ∧ W.Pairwise (fun x y => x.block < y.block) ∧ ∀ p, prev = some p → ∀ x ∈ W, p < x.block
  | [], prev, _ => ⟨by simp, List.Pairwise.nil, by simp⟩
  | x :: W, prev, h => by
    have h0 : wOne n prev x = 0 := by
      unfold wRest at h
      split at h
      · assumption
      · exact absurd h ‹_›
    have h1 : wRest n (some x.block) W = 0 := by
      unfold wRest at h
      rw [if_pos h0] at h
      exact h
    obtain ⟨i1, i2, i3⟩ := wRest_ok W (some x.block) h1
    have hx : (0 ≤ x.block ∧ x.block ≤ n - 1) ∧ x.data.size ≤ 48 ∧ ∀ p, prev = some p → p < x.block := by
      unfold wOne at h0
      split at h0
      · cases h0
      · rename_i hr
        split at h0
        · cases h0
        · refine ⟨Classical.not_not.1 hr, by omega, fun p hp => ?_⟩
          subst hp
          simp only at h0
          split at h0
          · cases h0
          · omega
    refine ⟨fun y hy => ?_, List.pairwise_cons.2 ⟨fun y hy => i3 _ rfl y hy, i2⟩, fun p hp y hy => ?_⟩
    · rcases List.mem_cons.1 hy with rfl | hy
      · exact ⟨hx.1.1, hx.1.2, hx.2.1⟩
      · exact i1 y hy
    · rcases List.mem_cons.1 hy with rfl | hy
      · exact hx.2.2 p hp
      · have := i3 _ rfl y hy
        have := hx.2.2 p hp
        omega
theorem wFault_ok {W : List Wr} {n : Nat} (h : wFault W (n : Int) = 0) : WOk W n := by
  unfold wFault at h
  split at h
  · cases h
  · obtain ⟨h1, h2, _⟩ := wRest_ok W none h
    exact ⟨by omega, fun x hx => ⟨(h1 x hx).1, by have := (h1 x hx).2.1; omega, (h1 x hx).2.2⟩, h2⟩
theorem wRest_of {n : Nat} : ∀ (W : List Wr) (prev : Option Int), (∀ x ∈ W, 0 ≤ x.block ∧ x.block < (n : Int) ∧ x.data.size ≤ 48) → W.Pairwise (fun x y => x.block < y.block) → (∀ p, prev = some p → ∀ x ∈ W, p < x.block) → wRest (n : Int) prev W = 0
  | [], _, _, _, _ => rfl
  | x :: W, prev, h1, h2, h3 => by
    obtain ⟨h4, h5⟩ := List.pairwise_cons.1 h2
    have hx := h1 x (by simp)
    have h0 : wOne (n : Int) prev x = 0 := by
      unfold wOne
      rw [if_neg (by omega), if_neg (by omega)]
      cases prev with
      | none => rfl
      | some p =>
        have := h3 p rfl x (by simp)
        simp only
        rw [if_neg (by omega)]
    unfold wRest
    rw [if_pos h0]
    exact wRest_of W _ (fun y hy => h1 y (by simp [hy])) h5 (fun p hp y hy => by cases hp; exact h4 y hy)
theorem wFault_of {W : List Wr} {n : Nat} (h : WOk W n) : wFault W (n : Int) = 0 := by
  unfold wFault
  rw [if_neg (by have := h.len; omega)]
  exact wRest_of W none h.all h.up (by simp)

/-! ### the first phase -/
theorem dropW_ok {V : Vol} (h : VOk V) {x : Wr} (hx : 0 ≤ x.block ∧ x.block < (V.blocks.length : Int)) :
    VOk (dropW V x) ∧ (dropW V x).blocks.length = V.blocks.length ∧ (dropW V x).blocks[x.block.toNat]? = some (-1) ∧
    (∀ (b : Nat) (d : ByteArray), x.block ≠ (b : Int) → RdIs V b d → RdIs (dropW V x) b d) ∧ ∀ b : Nat, V.blocks[b]? = some (-1) → (dropW V x).blocks[b]? = some (-1) := by
  have hb : x.block.toNat < V.blocks.length := by omega
  have hz := List.getElem?_eq_getElem (l := V.blocks) hb
  obtain ⟨z, hzz⟩ : ∃ z, z = V.blocks[x.block.toNat] := ⟨_, rfl⟩
  rw [← hzz] at hz
  unfold dropW
  rw [hz]
  simp only
  by_cases h0 : 0 ≤ z
  · rw [if_pos h0]
    obtain ⟨h1, _, h3⟩ := drop_ok h hz h0
    refine ⟨h1, by simp, set_get hb _, fun b d hne hr => h3 b d (by omega) hr, fun b hbb => ?_⟩
    by_cases hne : b = x.block.toNat
    · subst hne; exact set_get hb _
    · show (V.blocks.set _ _)[b]? = _
      rw [set_other hne]; exact hbb
  · rw [if_neg h0]
    have hz1 : z = -1 := by
      rcases h.blk z (List.mem_of_getElem? hz) with h1 | ⟨y, hy, hid⟩
      · exact h1
      · have := (may_mem h.may hy).1; omega
    exact ⟨h, rfl, by rw [hz, hz1], fun b d _ hr => hr, fun b hbb => hbb⟩
theorem dropAll_ok : ∀ (W : List Wr) (V : Vol), VOk V → (∀ x ∈ W, 0 ≤ x.block ∧ x.block < (V.blocks.length : Int)) →
    VOk (W.foldl dropW V) ∧ (W.foldl dropW V).blocks.length = V.blocks.length ∧ (∀ x ∈ W, (W.foldl dropW V).blocks[x.block.toNat]? = some (-1)) ∧
    (∀ (b : Nat) (d : ByteArray), (∀ x ∈ W, x.block ≠ (b : Int)) → RdIs V b d → RdIs (W.foldl dropW V) b d) ∧ ∀ b : Nat, V.blocks[b]? = some (-1) → (W.foldl dropW V).blocks[b]? = some (-1)
  | [], V, h, _ => ⟨h, rfl, by simp, fun _ _ _ hr => hr, fun _ hb => hb⟩
  | x :: W, V, h, hW => by
    obtain ⟨a1, a2, a3, a4, a5⟩ := dropW_ok h (hW x (by simp))
    obtain ⟨b1, b2, b3, b4, b5⟩ := dropAll_ok W (dropW V x) a1 (fun y hy => by rw [a2]; exact hW y (by simp [hy]))
    refine ⟨b1, b2.trans a2, fun y hy => ?_, fun b d hne hr => b4 b d (fun y hy => hne y (by simp [hy])) (a4 b d (hne x (by simp)) hr), fun b hb => b5 b (a5 b hb)⟩
    rcases List.mem_cons.1 hy with rfl | hy
    · exact b5 _ a3
    · exact b3 y hy

/-! ### the second phase -/
theorem empty_of {d : ByteArray} (h : ¬ 0 < d.size) : d = ⟨#[]⟩ := by
  apply ByteArray.ext
  have : d.data.size = 0 := by have : d.data.size = d.size := rfl; omega
  exact Array.eq_empty_of_size_eq_zero this
theorem keepAll_ok : ∀ (W : List Wr) (V : Vol), VOk V → V.blocks.length ≤ 16 → (∀ x ∈ W, 0 ≤ x.block ∧ x.block < (V.blocks.length : Int) ∧ x.data.size ≤ 48) → W.Pairwise (fun x y => x.block < y.block) →
    (∀ x ∈ W, V.blocks[x.block.toNat]? = some (-1)) →
    (keepAll V W).2 = 0 ∧ VOk (keepAll V W).1 ∧ (keepAll V W).1.blocks.length = V.blocks.length ∧ (∀ x ∈ W, RdIs (keepAll V W).1 x.block.toNat x.data) ∧
    ∀ (b : Nat) (d : ByteArray), (∀ x ∈ W, x.block ≠ (b : Int)) → RdIs V b d → RdIs (keepAll V W).1 b d
  | [], V, h, _, _, _, _ => ⟨rfl, h, rfl, by simp, fun _ _ _ hr => hr⟩
  | x :: W, V, h, h16, hW, hp, hm => by
    obtain ⟨h4, h5⟩ := List.pairwise_cons.1 hp
    have hx := hW x (by simp)
    have hz := hm x (by simp)
    have step : (keepW V x).2 = 0 ∧ VOk (keepW V x).1 ∧ (keepW V x).1.blocks.length = V.blocks.length ∧ RdIs (keepW V x).1 x.block.toNat x.data ∧
        (∀ (b : Nat) (d : ByteArray), b ≠ x.block.toNat → RdIs V b d → RdIs (keepW V x).1 b d) ∧ ∀ b : Nat, b ≠ x.block.toNat → (keepW V x).1.blocks[b]? = V.blocks[b]? := by
      unfold keepW
      by_cases hd : 0 < x.data.size
      · obtain ⟨k1, k2, k3, k4⟩ := keep_ok h h16 hz hd hx.2.2
        rw [if_pos hd, if_pos k1]
        exact ⟨rfl, k2, by simp, k3, k4, fun b hb => set_other hb _⟩
      · rw [if_neg hd]
        exact ⟨rfl, h, rfl, ⟨-1, hz, Or.inl ⟨rfl, empty_of hd⟩⟩, fun _ _ _ hr => hr, fun _ _ => rfl⟩
    obtain ⟨s1, s2, s3, s4, s5, s6⟩ := step
    have e : keepAll V (x :: W) = keepAll (keepW V x).1 W := by
      show (if (keepW V x).2 = 0 then _ else _) = _
      rw [if_pos s1]
    rw [e]
    obtain ⟨r1, r2, r3, r4, r5⟩ := keepAll_ok W (keepW V x).1 s2 (by rw [s3]; exact h16) (fun y hy => by rw [s3]; exact hW y (by simp [hy])) h5
      (fun y hy => by rw [s6 _ (by have := h4 y hy; have := hW y (by simp [hy]); omega)]; exact hm y (by simp [hy]))
    refine ⟨r1, r2, r3.trans s3, fun y hy => ?_, fun b d hne hr => r5 b d (fun y hy => hne y (by simp [hy])) (s5 b d (by have := hne x (by simp); omega) hr)⟩
    rcases List.mem_cons.1 hy with rfl | hy
    · exact r5 _ _ (fun z hz' => by have := h4 z hz'; omega) s4
    · exact r4 y hy

/-- what block b is behind writes -/
def upd (W : List Wr) (b : Nat) (d : ByteArray) : ByteArray := match W.find? (fun x => x.block == (b : Int)) with
  | some x => x.data
  | none => d
theorem apply_ok {V : Vol} (h : VOk V) (h16 : V.blocks.length ≤ 16) {W : List Wr} (hW : WOk W V.blocks.length) :
    (applied V W).2 = 0 ∧ VOk (applied V W).1 ∧ (applied V W).1.blocks.length = V.blocks.length ∧ ∀ b, b < V.blocks.length → rd (applied V W).1 b = upd W b (rd V b) := by
  have e : applied V W = keepAll (W.foldl dropW V) W := by
    unfold applied
    rw [if_neg (by rw [volB_iff.2 h]; simp), if_neg (by rw [wFault_of hW]; simp)]
  rw [e]
  obtain ⟨a1, a2, a3, a4, _⟩ := dropAll_ok W V h (fun x hx => ⟨(hW.all x hx).1, (hW.all x hx).2.1⟩)
  obtain ⟨b1, b2, b3, b4, b5⟩ := keepAll_ok W (W.foldl dropW V) a1 (by rw [a2]; exact h16) (fun x hx => by rw [a2]; exact hW.all x hx) hW.up a3
  refine ⟨b1, b2, b3.trans a2, fun b hb => rd_eq b2 ?_⟩
  unfold upd
  cases hf : W.find? (fun x => x.block == (b : Int)) with
  | some x =>
    have h1 := List.find?_some hf
    have h2 := List.mem_of_find?_eq_some hf
    have := b4 x h2
    have hxb : x.block = (b : Int) := by simpa using h1
    rw [hxb] at this
    simpa using this
  | none =>
    rw [List.find?_eq_none] at hf
    have hne : ∀ x ∈ W, x.block ≠ (b : Int) := fun x hx => by simpa using hf x hx
    exact b5 b _ hne (a4 b _ hne (rd_is h hb))
theorem apply_bad {V : Vol} (h : VOk V) {W : List Wr} (hW : wFault W V.blocks.length ≠ 0) : applied V W = (⟨[], []⟩, wFault W V.blocks.length) := by
  unfold applied
  rw [if_neg (by rw [volB_iff.2 h]; simp), if_pos hW]

/-! ### how many items -/
theorem nodup_le {α : Type} [DecidableEq α] : ∀ (A Z : List α), A.Nodup → (∀ a ∈ A, a ∈ Z) → A.length ≤ Z.length
  | [], _, _, _ => by simp
  | a :: A, Z, hn, hs => by
    obtain ⟨h1, h2⟩ := List.nodup_cons.1 hn
    have ha := hs a (by simp)
    have ih := nodup_le A (Z.erase a) h2 (fun c hc => (List.mem_erase_of_ne (fun e => h1 (by rw [← e]; exact hc))).2 (hs c (by simp [hc])))
    rw [List.length_erase_of_mem ha] at ih
    have := List.length_pos_of_mem ha
    simp only [List.length_cons]
    omega
theorem items_data {V : Vol} (h : VOk V) (d : ByteArray) : d ∈ V.items.map It.data ↔ 0 < d.size ∧ ∃ b, b < V.blocks.length ∧ rd V b = d := by
  constructor
  · intro hd
    obtain ⟨x, hx, rfl⟩ := List.mem_map.1 hd
    have hu := h.use x hx
    have hm := may_mem h.may hx
    refine ⟨hu.2, ?_⟩
    have hmem : x.id ∈ V.blocks := List.count_pos_iff.1 (by omega)
    obtain ⟨b, hb⟩ := List.getElem?_of_mem hmem
    exact ⟨b, (List.getElem?_eq_some_iff.1 hb).1, rd_eq h ⟨x.id, hb, Or.inr ⟨x, hx, rfl, rfl⟩⟩⟩
  · rintro ⟨hd, b, hb, rfl⟩
    obtain ⟨z, _, h1 | ⟨x, hx, _, hxd⟩⟩ := rd_is h hb
    · rw [h1.2] at hd
      exact absurd hd (by decide)
    · exact List.mem_map.2 ⟨x, hx, hxd⟩
theorem items_count {V : Vol} (h : VOk V) {D : List ByteArray} (hn : D.Nodup) (hD : ∀ d, d ∈ D ↔ 0 < d.size ∧ ∃ b, b < V.blocks.length ∧ rd V b = d) : V.items.length = D.length := by
  have hnd : (V.items.map It.data).Nodup := by
    rw [List.nodup_iff_pairwise_ne, List.pairwise_map]
    exact (may_pw h.may).imp (fun ha => ha.2)
  have h1 := nodup_le (V.items.map It.data) D hnd (fun d hd => (hD d).2 ((items_data h d).1 hd))
  have h2 := nodup_le D (V.items.map It.data) hn (fun d hd => (items_data h d).2 ((hD d).1 hd))
  simp only [List.length_map] at h1 h2
  omega

/-- P3.2: a new volume -/
def newV (n : Nat) : Vol := ⟨[], List.replicate n (-1)⟩
theorem new_ok {n : Nat} (h : 1 ≤ n ∧ n ≤ 32) : VOk (newV n) := by
  refine ⟨by show mayB [] = true; decide, by simpa [newV] using h, fun z hz => Or.inl ?_, fun x hx => ?_⟩
  · simp [newV] at hz; exact hz.2
  · simp [newV] at hx
theorem new_rd (n b : Nat) : rd (newV n) b = ⟨#[]⟩ := by
  unfold rd newV
  by_cases hb : b < n
  · simp [hb]
  · simp [hb]
/-! ### at most thirty-two blocks: what was not refused -/
theorem keepAll_any : ∀ (W : List Wr) (V : Vol), VOk V → (∀ x ∈ W, 0 ≤ x.block ∧ x.block < (V.blocks.length : Int) ∧ x.data.size ≤ 48) → W.Pairwise (fun x y => x.block < y.block) →
    (∀ x ∈ W, V.blocks[x.block.toNat]? = some (-1)) → (keepAll V W).2 = 0 → VOk (keepAll V W).1 ∧ (keepAll V W).1.blocks.length = V.blocks.length
  | [], V, h, _, _, _, _ => ⟨h, rfl⟩
  | x :: W, V, h, hW, hp, hm, h0 => by
    obtain ⟨h4, h5⟩ := List.pairwise_cons.1 hp
    have hx := hW x (by simp)
    have hz := hm x (by simp)
    have s1 : (keepW V x).2 = 0 := by
      by_cases hc : (keepW V x).2 = 0
      · exact hc
      · have e : keepAll V (x :: W) = (⟨[], []⟩, (keepW V x).2) := by
          show (if (keepW V x).2 = 0 then _ else _) = _
          rw [if_neg hc]
        rw [e] at h0
        exact absurd h0 hc
    have step : VOk (keepW V x).1 ∧ (keepW V x).1.blocks.length = V.blocks.length ∧ ∀ b : Nat, b ≠ x.block.toNat → (keepW V x).1.blocks[b]? = V.blocks[b]? := by
      unfold keepW at s1 ⊢
      by_cases hd : 0 < x.data.size
      · rw [if_pos hd] at s1 ⊢
        by_cases hk : (kept V.items x.data).2.2 = 0
        · obtain ⟨_, k2, _, _⟩ := keep_any h hz hd hx.2.2 hk
          rw [if_pos hk]
          exact ⟨k2, by simp, fun b hb => set_other hb _⟩
        · rw [if_neg hk] at s1
          exact absurd s1 hk
      · rw [if_neg hd]
        exact ⟨h, rfl, fun _ _ => rfl⟩
    obtain ⟨s2, s3, s6⟩ := step
    have e : keepAll V (x :: W) = keepAll (keepW V x).1 W := by
      show (if (keepW V x).2 = 0 then _ else _) = _
      rw [if_pos s1]
    rw [e] at h0 ⊢
    obtain ⟨r2, r3⟩ := keepAll_any W (keepW V x).1 s2 (fun y hy => by rw [s3]; exact hW y (by simp [hy])) h5
      (fun y hy => by rw [s6 _ (by have := h4 y hy; have := hW y (by simp [hy]); omega)]; exact hm y (by simp [hy])) h0
    exact ⟨r2, r3.trans s3⟩
/-- what was applied is valid -/
theorem apply_valid {V : Vol} {W : List Wr} (h : VOk V) (h0 : (applied V W).2 = 0) : VOk (applied V W).1 ∧ (applied V W).1.blocks.length = V.blocks.length ∧ WOk W V.blocks.length := by
  by_cases hw : wFault W V.blocks.length = 0
  · have hW := wFault_ok hw
    have e : applied V W = keepAll (W.foldl dropW V) W := by
      unfold applied
      rw [if_neg (by rw [volB_iff.2 h]; simp), if_neg (by rw [hw]; simp)]
    rw [e] at h0 ⊢
    obtain ⟨a1, a2, a3, a4, _⟩ := dropAll_ok W V h (fun x hx => ⟨(hW.all x hx).1, (hW.all x hx).2.1⟩)
    obtain ⟨b2, b3⟩ := keepAll_any W (W.foldl dropW V) a1 (fun x hx => by rw [a2]; exact hW.all x hx) hW.up a3 h0
    exact ⟨b2, b3.trans a2, hW⟩
  · rw [apply_bad h hw] at h0
    exact absurd h0 hw
end Go.Proofs.Ythjaanhkmfiajac

/- What package volume's New, Check and Read answer, as Lean functions of the volume. No condition. -/
namespace Go.Proofs.Ythjaanhkmfiajac

/-- P3.2 -/
def newOf (n : Int) : Vol × Int := if 1 ≤ n ∧ n ≤ 32 then (newV n.toNat, 0) else (⟨[], []⟩, 2)
/-- P3.1 -/
def vchk (V : Vol) : Int := if volB V then 0 else 7
/-- P3.2: the data and the error's number -/
def readOf (V : Vol) (b : Int) : ByteArray × Int :=
  if volB V = false then (⟨#[]⟩, 7)
  else if ¬ (0 ≤ b ∧ b ≤ (V.blocks.length : Int) - 1) then (⟨#[]⟩, 6)
  else if V.blocks[b.toNat]?.getD 0 < 0 then (⟨#[]⟩, 0)
  else match pos V.items (V.blocks[b.toNat]?.getD 0) with
    | some q => ((V.items[q]?.getD It.zero).data, 0)
    | none => (⟨#[]⟩, 0)

theorem vchk_ok {V : Vol} (h : VOk V) : vchk V = 0 := by unfold vchk; rw [volB_iff.2 h]; rfl
theorem readOf_ok {V : Vol} (h : VOk V) {b : Nat} (hb : b < V.blocks.length) : readOf V (b : Int) = (rd V b, 0) := by
  have hm : ¬ volB V = false := by rw [volB_iff.2 h]; decide
  unfold readOf rd
  rw [if_neg hm, if_neg (by omega), Int.toNat_natCast, List.getElem?_eq_getElem hb]
  simp only [Option.getD_some]
  by_cases h0 : V.blocks[b] < 0
  · rw [if_pos h0, if_pos h0]
  · rw [if_neg h0, if_neg h0]
    cases pos V.items V.blocks[b] with
    | none => rfl
    | some q => rfl
theorem readOf_none {V : Vol} (h : VOk V) {b : Int} (hb : b < 0 ∨ (V.blocks.length : Int) ≤ b) : readOf V b = (⟨#[]⟩, 6) := by
  have hm : ¬ volB V = false := by rw [volB_iff.2 h]; decide
  unfold readOf
  rw [if_neg hm, if_pos (by omega)]
theorem readOf_bad {V : Vol} (h : volB V = false) (b : Int) : readOf V b = (⟨#[]⟩, 7) := by
  unfold readOf
  rw [if_pos h]
theorem ret_read {r : ByteArray × Int} {d : ByteArray} {n : Int} (h : r = (d, n)) : Ending.returned (.tuple #[.string d, .int .i64 n]) = .returned (.tuple #[.string r.1, .int .i64 r.2]) := by rw [h]

theorem vol_len32 {V : Vol} (h : volB V = true) : 1 ≤ V.blocks.length ∧ V.blocks.length ≤ 32 := by
  simp only [volB, Bool.and_eq_true, decide_eq_true_eq] at h
  exact h.1.1.2
theorem vol_at {V : Vol} (h : volB V = true) {k : Nat} {z : Int} (hz : V.blocks[k]? = some z) : blockB V.items z = true := by
  simp only [volB, Bool.and_eq_true, List.all_eq_true] at h
  exact h.1.2 z (List.mem_of_getElem? hz)
theorem VOk.wideZ {V : Vol} (h : VOk V) : WideZ V.blocks := by
  intro z hz
  rcases h.blk z hz with rfl | ⟨x, hx, rfl⟩
  · omega
  · have := may_mem h.may hx; omega
end Go.Proofs.Ythjaanhkmfiajac

/- A volume in rows that a call owns. No condition. -/
namespace Go.Proofs.Ythjaanhkmfiajac
open Go.RowKit

theorem Try.infoInt : (Try.prog.info? 3).map (fun i => (i.zero, i.size, i.bytes)) = some (some (.int .i64 0), 1, 8) := by kernel_rfl

theorem OwnZ.rebase {B : Nat} {e : TypeId} {v : Value} {l : List Int} {W0 w : World} (h : OwnZ B e v l W0 w) : OwnZ B e v l w w := ⟨h.1, Below.refl _ _, h.2.2⟩
theorem OwnI.rebase {B : Nat} {e : TypeId} {v : Value} {l : List It} {W0 w : World} (h : OwnI B e v l W0 w) : OwnI B e v l w w := ⟨h.1, Below.refl _ _, h.2.2⟩
theorem row_setBox {B size g k : Nat} {e : TypeId} {v x : Value} {n : Nat} {xs : List Value} {w : World} (h : w.ownsRow B e size v n xs) (hg : g < B) : (w.setCell ⟨g, k, none⟩ x).ownsRow B e size v n xs := by
  refine ⟨h.1, ?_⟩
  rcases h.2 with hn | ⟨b, cap, cur, hv, hB, hb, rest⟩
  · exact .inl hn
  · exact .inr ⟨b, cap, cur, hv, hB, by rw [Below.heap_setCell _ _ _ _ (show b ≠ g by omega)]; exact hb, rest⟩
theorem size_setCell (w : World) (p : Addr) (x : Value) : (w.setCell p x).heap.size = w.heap.size := by simp
/-- a store into an older block -/
theorem OwnZ.setBox {B g k : Nat} {e : TypeId} {v x : Value} {l : List Int} {W0 w : World} (h : OwnZ B e v l W0 w) (hg : g < B) : OwnZ B e v l (w.setCell ⟨g, k, none⟩ x) (w.setCell ⟨g, k, none⟩ x) :=
  ⟨row_setBox h.1 hg, Below.refl _ _, by rw [size_setCell]; exact h.2.2⟩
theorem OwnI.setBox {B g k : Nat} {e : TypeId} {v x : Value} {l : List It} {W0 w : World} (h : OwnI B e v l W0 w) (hg : g < B) : OwnI B e v l (w.setCell ⟨g, k, none⟩ x) (w.setCell ⟨g, k, none⟩ x) :=
  ⟨row_setBox h.1 hg, Below.refl _ _, by rw [size_setCell]; exact h.2.2⟩

/-- a volume in rows of the call's own, apart from each other -/
def OwnVol (B : Nat) (vi vb : Value) (V : Vol) (W0 w : World) : Prop :=
  OwnI B 55 vi V.items W0 w ∧ OwnZ B 3 vb V.blocks W0 w ∧ (vi.ownBlock = none ∨ vi.ownBlock ≠ vb.ownBlock)
theorem OwnVol.below {B : Nat} {vi vb : Value} {V : Vol} {W0 w : World} (h : OwnVol B vi vb V W0 w) : Below B W0 w := h.1.2.1
theorem OwnVol.lower {B B' : Nat} {vi vb : Value} {V : Vol} {W0 W1 w : World} (h : OwnVol B' vi vb V W1 w) (hB : B ≤ B') (hb : Below B W0 W1) : OwnVol B vi vb V W0 w := ⟨h.1.lower hB hb, h.2.1.lower hB hb, h.2.2⟩
theorem OwnVol.setBox {B g k : Nat} {vi vb x : Value} {V : Vol} {W0 w : World} (h : OwnVol B vi vb V W0 w) (hg : g < B) : OwnVol B vi vb V (w.setCell ⟨g, k, none⟩ x) (w.setCell ⟨g, k, none⟩ x) := ⟨h.1.setBox hg, h.2.1.setBox hg, h.2.2⟩
theorem OwnVol.vol {B : Nat} {vi vb : Value} {V : Vol} {W0 w : World} (h : OwnVol B vi vb V W0 w) (h1 : V.items.length ≤ 140737488355328) (h2 : V.blocks.length ≤ 140737488355328) : VolAt w (.agg #[vi, vb]) V :=
  ⟨vi, vb, rfl, h.1.items h1, h.2.1.ints h2⟩

theorem OwnI.isSlice {B : Nat} {e : TypeId} {v : Value} {L : List It} {W0 w : World} (h : OwnI B e v L W0 w) : ∃ p cap, v = .slice p L.length cap := by
  rcases h.1.2 with ⟨rfl, hn⟩ | ⟨g, cap, cur, rfl, _⟩
  · exact ⟨none, 0, by rw [hn]⟩
  · exact ⟨_, cap, rfl⟩
theorem OwnZ.isSlice {B : Nat} {e : TypeId} {v : Value} {L : List Int} {W0 w : World} (h : OwnZ B e v L W0 w) : ∃ p cap, v = .slice p L.length cap := by
  rcases h.1.2 with ⟨rfl, hn⟩ | ⟨g, cap, cur, rfl, _⟩
  · exact ⟨none, 0, by rw [hn]⟩
  · exact ⟨_, cap, rfl⟩

def RetVol (V : Vol) (n : Int) (W0 : World) (e : Ending) (w' : World) : Prop := ∃ vi vb, e = .returned (.tuple #[.agg #[vi, vb], .int .i64 n]) ∧ OwnVol W0.heap.size vi vb V W0 w'

theorem below_set2 {w w1 : World} (hb : Below w.heap.size w w1) (a b : Value) : Below w.heap.size w ((w1.setCell ⟨w.heap.size, 0, none⟩ a).setCell ⟨w.heap.size, 1, none⟩ b) :=
  (hb.setCell (p := ⟨w.heap.size, 0, none⟩) (Nat.le_refl _) a).setCell (p := ⟨w.heap.size, 1, none⟩) (Nat.le_refl _) b
theorem OwnVol.none {B : Nat} {W0 w : World} (hb : Below B W0 w) (h : B ≤ w.heap.size) : OwnVol B (.slice none 0 0) (.slice none 0 0) ⟨[], []⟩ W0 w := ⟨OwnI.nil hb h, OwnZ.nil hb h, Or.inl rfl⟩
end Go.Proofs.Ythjaanhkmfiajac

/- A volume copied: steps of a region that draws, its two boxes, its two rows apart. Condition: the size of what is copied. -/
namespace Go.Proofs.Ythjaanhkmfiajac
open Go.RowKit

section
variable {P : Program}
/-- a whole slice of items copied onto nil, as one step of a region that draws -/
theorem step_copy_all_items {ops : Array Oper} {o : Oper} {a : Act} {w : World} {K : Act → World → Prop} {Q : Exit → Act → World → Prop} {E : Prop} (hgd : o.guard = none) (s x : Operand) (t : TypeId)
    (ho : o.op = .call { callee := .builtin .append, args := #[s, x], argTypes := #[t, t] })
    (e : TypeId) (i : TypeInfo) (z : Value) (ht : P.underlying t = some (.slice e)) (hi : P.info? e = some i) (hz : i.zero = some z) (hzs : z.cells.size = 3) (hsize : i.size = 3) (hby : i.bytes = 32)
    (hs : a.eval s = .slice none 0 0) (M : List It) (vm : Value) (hm : ItemsAt w vm M) (hx : a.eval x = vm) (hlen : M.length * 32 ≤ 140737488355328)
    (hK : ∀ v' w', OwnI w.heap.size e v' M w w' → K (a.put o.dst v') w') : if Region.wanted o (yielded ops a.tmps) = true then Oper.wp P o a w K Q else E := by
  have hw : Region.wanted o (yielded ops a.tmps) = true := by simp [Region.wanted, hgd]
  rw [if_pos hw]
  obtain ⟨p, cap, rfl, hl, hn, hc⟩ := hm
  have h0 : OwnI w.heap.size e (.slice none 0 0) [] w w := OwnI.nil (Below.refl _ _) (Nat.le_refl _)
  cases p with
  | none =>
    have hM : M = [] := by
      cases M with
      | nil => rfl
      | cons y M => obtain ⟨_, _, hp, _⟩ := hc 0 y rfl; cases hp
    subst hM
    obtain rfl := hn rfl
    have hrun := run_append_owned_none (P := P) (w := w) w.heap.size t o.type e i 3 ht hi (.slice none 0 0) 0 [] h0.1
    unfold Oper.wp
    simp [execOp, ho, resolve, invoke, builtin, hs, hx, hrun, Result.andThen]
    exact hK _ _ h0
  | some ad =>
    obtain ⟨v', w', hrun, ho', hg, _⟩ := run_append_own (P := P) w w.heap.size t o.type e i z 3 32 ht hi hz hsize hby hzs (by decide) (.slice none 0 0) 0 [] h0.1 ad M.length cap (icells M) (icells_length M) (by
      intro j u hj
      have hjl := (List.getElem?_eq_some_iff.1 hj).1
      rw [icells_length] at hjl
      obtain ⟨q, r, hr, hjq⟩ : ∃ q r, r < 3 ∧ j = q * 3 + r := ⟨j / 3, j % 3, by omega, by omega⟩
      have hq : q < M.length := by omega
      obtain ⟨b, off, hp, _, c0, c1, c2⟩ := hc q M[q] (List.getElem?_eq_getElem hq)
      cases hp
      obtain ⟨d0, d1, d2⟩ := icells_at M q M[q] (List.getElem?_eq_getElem hq)
      rw [Addr.add_lit, hjq]
      rw [hjq] at hj
      match r, hr with
      | 0, _ => rw [← hj]; exact c0.trans d0.symm
      | 1, _ => rw [← hj]; exact c1.trans d1.symm
      | 2, _ => rw [← hj]; exact c2.trans d2.symm) (icells_one _) (by unfold maxLen; omega) (by omega) (Nat.le_refl _)
    rw [Nat.zero_add, List.nil_append] at ho'
    unfold Oper.wp
    simp [execOp, ho, resolve, invoke, builtin, hs, hx, hrun, Result.andThen]
    exact hK _ _ (h0.grown ho' hg)
theorem step_copy_all_ints {ops : Array Oper} {o : Oper} {a : Act} {w : World} {K : Act → World → Prop} {Q : Exit → Act → World → Prop} {E : Prop} (hgd : o.guard = none) (s x : Operand) (t : TypeId)
    (ho : o.op = .call { callee := .builtin .append, args := #[s, x], argTypes := #[t, t] })
    (e : TypeId) (i : TypeInfo) (z : Value) (ht : P.underlying t = some (.slice e)) (hi : P.info? e = some i) (hz : i.zero = some z) (hzs : z.cells.size = 1) (hsize : i.size = 1) (hby : i.bytes = 8)
    (hs : a.eval s = .slice none 0 0) (M : List Int) (vm : Value) (hm : IntsAt w vm M) (hx : a.eval x = vm) (hlen : M.length * 8 ≤ 140737488355328)
    (hK : ∀ v' w', OwnZ w.heap.size e v' M w w' → K (a.put o.dst v') w') : if Region.wanted o (yielded ops a.tmps) = true then Oper.wp P o a w K Q else E := by
  have hw : Region.wanted o (yielded ops a.tmps) = true := by simp [Region.wanted, hgd]
  rw [if_pos hw]
  obtain ⟨p, cap, rfl, hl, hn, hc⟩ := hm
  have h0 : OwnZ w.heap.size e (.slice none 0 0) [] w w := OwnZ.nil (Below.refl _ _) (Nat.le_refl _)
  cases p with
  | none =>
    have hM : M = [] := by
      cases M with
      | nil => rfl
      | cons y M => obtain ⟨_, _, hp, _⟩ := hc 0 y rfl; cases hp
    subst hM
    obtain rfl := hn rfl
    have hrun := run_append_owned_none (P := P) (w := w) w.heap.size t o.type e i 1 ht hi (.slice none 0 0) 0 [] h0.1
    unfold Oper.wp
    simp [execOp, ho, resolve, invoke, builtin, hs, hx, hrun, Result.andThen]
    exact hK _ _ h0
  | some ad =>
    obtain ⟨v', w', hrun, ho', hg, _⟩ := run_append_own (P := P) w w.heap.size t o.type e i z 1 8 ht hi hz hsize hby hzs (by decide) (.slice none 0 0) 0 [] h0.1 ad M.length cap (zcells M) (by simp [zcells]) (by
      intro j u hj
      unfold zcells at hj
      rw [List.getElem?_map] at hj
      cases hz' : M[j]? with
      | none => rw [hz'] at hj; simp at hj
      | some z' =>
        rw [hz'] at hj
        simp at hj
        subst hj
        obtain ⟨b, off, hp, _, c0⟩ := hc j z' hz'
        cases hp
        rw [Addr.add_lit]
        exact c0) (zcells_one _) (by unfold maxLen; omega) (by omega) (Nat.le_refl _)
    rw [Nat.zero_add, List.nil_append] at ho'
    unfold Oper.wp
    simp [execOp, ho, resolve, invoke, builtin, hs, hx, hrun, Result.andThen]
    exact hK _ _ (h0.grown ho' hg)
end

/-- the box of two cells and the result's block stand behind a call's own work -/
theorem two_boxes {w W w' : World} {a b c d : Value} {T U : TypeId} (hb : Below W.heap.size W w') (hW : W = ((w.alloc (.cells #[a, b] T)).alloc (.cells #[c, d] U)).drew) :
    w'.cell? ⟨w.heap.size, 0, none⟩ = some a ∧ w'.cell? ⟨w.heap.size, 1, none⟩ = some b ∧ w'.cell? ⟨w.heap.size + 1, 0, none⟩ = some c ∧ w'.cell? ⟨w.heap.size + 1, 1, none⟩ = some d ∧
    w'.frozen? ⟨w.heap.size + 1, 0, none⟩ = false ∧ w'.frozen? ⟨w.heap.size + 1, 1, none⟩ = false := by
  subst hW
  refine ⟨?_, ?_, ?_, ?_, ?_, ?_⟩
  · rw [hb.cell (p := ⟨w.heap.size, 0, none⟩) (by simp; omega)]; simp
  · rw [hb.cell (p := ⟨w.heap.size, 1, none⟩) (by simp; omega)]; simp
  · rw [hb.cell (p := ⟨w.heap.size + 1, 0, none⟩) (by simp)]; simp
  · rw [hb.cell (p := ⟨w.heap.size + 1, 1, none⟩) (by simp)]; simp
  · rw [hb.frozen (p := ⟨w.heap.size + 1, 0, none⟩) (by simp)]; simp
  · rw [hb.frozen (p := ⟨w.heap.size + 1, 1, none⟩) (by simp)]; simp

/-- two rows, the one behind the other, apart -/
theorem apart_later {W1 W2 w1 w2 : World} {ei ez : TypeId} {vi vz : Value} {L : List It} {Z : List Int} (h1 : OwnI W1.heap.size ei vi L W1 w1) (h2 : OwnZ W2.heap.size ez vz Z W2 w2) (hb : w1.heap.size ≤ W2.heap.size) : vi.ownBlock = none ∨ vi.ownBlock ≠ vz.ownBlock := by
  cases hv : vi.ownBlock with
  | none => exact Or.inl rfl
  | some k =>
    right
    intro he
    have a1 := (h1.1.lt k hv).2
    have a2 := (h2.1.lt k he.symm).1
    omega
theorem apart_earlier {W1 W2 w1 w2 : World} {ei ez : TypeId} {vi vz : Value} {L : List It} {Z : List Int} (h2 : OwnZ W2.heap.size ez vz Z W2 w2) (h1 : OwnI W1.heap.size ei vi L W1 w1) (hb : w2.heap.size ≤ W1.heap.size) : vi.ownBlock = none ∨ vi.ownBlock ≠ vz.ownBlock := by
  cases hv : vi.ownBlock with
  | none => exact Or.inl rfl
  | some k =>
    right
    intro he
    have a1 := (h1.1.lt k hv).1
    have a2 := (h2.1.lt k he.symm).2
    omega

theorem fin_items_first {w W w2 w3 : World} {vi vz a b : Value} {L : List It} {Z : List Int} (hB : Below w.heap.size w W) (hW : w.heap.size + 2 ≤ W.heap.size)
    (h2 : OwnI W.drew.heap.size 55 vi L W.drew w2) (h3 : OwnZ w2.heap.size 3 vz Z w2 w3) :
    OwnVol w.heap.size vi vz ⟨L, Z⟩ w ((w3.setCell ⟨w.heap.size + 1, 0, none⟩ a).setCell ⟨w.heap.size + 1, 1, none⟩ b) := by
  have hW' : w.heap.size + 2 ≤ W.drew.heap.size := hW
  have s2 := h2.2.2
  have hb3 : Below w.heap.size w w3 := (hB.drew.trans (h2.below.mono (by omega))).trans (h3.below.mono (by omega))
  have hbf : Below w.heap.size w ((w3.setCell ⟨w.heap.size + 1, 0, none⟩ a).setCell ⟨w.heap.size + 1, 1, none⟩ b) :=
    (hb3.setCell (p := ⟨w.heap.size + 1, 0, none⟩) (Nat.le_succ _) a).setCell (p := ⟨w.heap.size + 1, 1, none⟩) (Nat.le_succ _) b
  refine ⟨?_, ?_, apart_later h2 h3 (Nat.le_refl _)⟩
  · exact (((h2.past h3.below).setBox (g := w.heap.size + 1) (k := 0) (x := a) (by omega)).setBox (g := w.heap.size + 1) (k := 1) (x := b) (by omega)).lower (by omega) hbf
  · exact ((h3.setBox (g := w.heap.size + 1) (k := 0) (x := a) (by omega)).setBox (g := w.heap.size + 1) (k := 1) (x := b) (by omega)).lower (by omega) hbf
theorem fin_ints_first {w W w2 w3 : World} {vi vz a b : Value} {L : List It} {Z : List Int} (hB : Below w.heap.size w W) (hW : w.heap.size + 2 ≤ W.heap.size)
    (h2 : OwnZ W.drew.heap.size 3 vz Z W.drew w2) (h3 : OwnI w2.heap.size 55 vi L w2 w3) :
    OwnVol w.heap.size vi vz ⟨L, Z⟩ w ((w3.setCell ⟨w.heap.size + 1, 0, none⟩ a).setCell ⟨w.heap.size + 1, 1, none⟩ b) := by
  have hW' : w.heap.size + 2 ≤ W.drew.heap.size := hW
  have s2 := h2.2.2
  have hb3 : Below w.heap.size w w3 := (hB.drew.trans (h2.below.mono (by omega))).trans (h3.below.mono (by omega))
  have hbf : Below w.heap.size w ((w3.setCell ⟨w.heap.size + 1, 0, none⟩ a).setCell ⟨w.heap.size + 1, 1, none⟩ b) :=
    (hb3.setCell (p := ⟨w.heap.size + 1, 0, none⟩) (Nat.le_succ _) a).setCell (p := ⟨w.heap.size + 1, 1, none⟩) (Nat.le_succ _) b
  refine ⟨?_, ?_, apart_earlier h2 h3 (Nat.le_refl _)⟩
  · exact ((h3.setBox (g := w.heap.size + 1) (k := 0) (x := a) (by omega)).setBox (g := w.heap.size + 1) (k := 1) (x := b) (by omega)).lower (by omega) hbf
  · exact (((h2.past h3.below).setBox (g := w.heap.size + 1) (k := 0) (x := a) (by omega)).setBox (g := w.heap.size + 1) (k := 1) (x := b) (by omega)).lower (by omega) hbf
end Go.Proofs.Ythjaanhkmfiajac

/- Two boxes of two cells that stand behind a call's own work. No condition. -/
namespace Go.Proofs.Ythjaanhkmfiajac
open Go.RowKit

def Past22 (w : World) (a b c d : Value) (T : TypeId) (wr : World) : Prop := Below ((w.alloc (.cells #[a, b] T)).alloc (.cells #[c, d] T)).heap.size ((w.alloc (.cells #[a, b] T)).alloc (.cells #[c, d] T)) wr
theorem Past22.cells {w wr : World} {a b c d : Value} {T : TypeId} (h : Past22 w a b c d T wr) :
    wr.cell? ⟨w.heap.size, 0, none⟩ = some a ∧ wr.cell? ⟨w.heap.size, 1, none⟩ = some b ∧ wr.cell? ⟨w.heap.size + 1, 0, none⟩ = some c ∧ wr.cell? ⟨w.heap.size + 1, 1, none⟩ = some d := by
  refine ⟨?_, ?_, ?_, ?_⟩
  · rw [Below.cell h (p := ⟨w.heap.size, 0, none⟩) (by simp; omega)]; simp
  · rw [Below.cell h (p := ⟨w.heap.size, 1, none⟩) (by simp; omega)]; simp
  · rw [Below.cell h (p := ⟨w.heap.size + 1, 0, none⟩) (by simp)]; simp
  · rw [Below.cell h (p := ⟨w.heap.size + 1, 1, none⟩) (by simp)]; simp
theorem Past22.box {w wr : World} {a b c d : Value} {T : TypeId} (h : Past22 w a b c d T wr) : Below w.heap.size w wr := (below_alloc (below_alloc (Below.refl _ _) _) _).trans (h.mono (by simp; omega))
theorem Past22.dr {w wr : World} {a b c d : Value} {T : TypeId} (h : Past22 w a b c d T wr) (n : Nat) : Past22 w a b c d T (wr.drewN n) := below_dr h n
theorem Past22.start (w : World) (a b c d : Value) (T : TypeId) : Past22 w a b c d T ((w.alloc (.cells #[a, b] T)).alloc (.cells #[c, d] T)) := Below.refl _ _
end Go.Proofs.Ythjaanhkmfiajac

/- Slices of writes as Lean data. No condition. -/
namespace Go.Proofs.Ythjaanhkmfiajac
open Go.RowKit

/-- the slice value v holds the writes W -/
def WritesAt (w : World) (v : Value) (W : List Wr) : Prop :=
  ∃ (p : Option Addr) (cap : Nat), v = .slice p W.length cap ∧ W.length ≤ 140737488355328 ∧ (p = none → cap = 0) ∧
    ∀ (i : Nat) (x : Wr), W[i]? = some x → ∃ b off, p = some ⟨b, off, none⟩ ∧ b < w.heap.size ∧
      w.cell? ⟨b, off + i * 2, none⟩ = some (.int .i64 x.block) ∧ w.cell? ⟨b, off + i * 2 + 1, none⟩ = some (.string x.data)
theorem WritesAt.keep {w w' : World} {v : Value} {W : List Wr} (h : WritesAt w v W) (hb : Below w.heap.size w w') : WritesAt w' v W := by
  obtain ⟨p, cap, hv, hl, hn, hc⟩ := h
  refine ⟨p, cap, hv, hl, hn, fun i x hx => ?_⟩
  obtain ⟨b, off, hp, hlt, h0, h1⟩ := hc i x hx
  exact ⟨b, off, hp, Nat.lt_of_lt_of_le hlt hb.size, (hb.cell (p := ⟨b, _, none⟩) hlt).trans h0, (hb.cell (p := ⟨b, _, none⟩) hlt).trans h1⟩

def prevAt (W : List Wr) : Nat → Option Int
  | 0 => none
  | k + 1 => (W[k]?).map Wr.block
theorem wRest_step {n : Int} {W : List Wr} {k : Nat} {x : Wr} (hx : W[k]? = some x) (h : wRest n none W = wRest n (prevAt W k) (W.drop k)) :
    wRest n none W = if wOne n (prevAt W k) x = 0 then wRest n (prevAt W (k + 1)) (W.drop (k + 1)) else wOne n (prevAt W k) x := by
  obtain ⟨hk, he⟩ := List.getElem?_eq_some_iff.1 hx
  rw [h, List.drop_eq_getElem_cons hk, he]
  show (if _ then _ else _) = _
  have : prevAt W (k + 1) = some x.block := by show (W[k]?).map Wr.block = _; rw [hx]; rfl
  rw [this]
theorem wRest_go {n : Int} {W : List Wr} {k : Nat} {x : Wr} (hx : W[k]? = some x) (h : wRest n none W = wRest n (prevAt W k) (W.drop k)) (h0 : wOne n (prevAt W k) x = 0) : wRest n none W = wRest n (prevAt W (k + 1)) (W.drop (k + 1)) := by
  rw [wRest_step hx h, if_pos h0]
theorem wRest_stop {n : Int} {W : List Wr} {k : Nat} {x : Wr} (hx : W[k]? = some x) (h : wRest n none W = wRest n (prevAt W k) (W.drop k)) {m : Int} (hm : m ≠ 0) (h0 : wOne n (prevAt W k) x = m) : wRest n none W = m := by
  rw [wRest_step hx h, if_neg (by rw [h0]; exact hm), h0]
end Go.Proofs.Ythjaanhkmfiajac

/- A row of writes that a call owns, told by a list of writes: append of one (alone, and as a step of a region that draws), a write's store; sorting of at most twelve. No condition but those in the statements. -/
namespace Go.Proofs.Ythjaanhkmfiajac
open Go.RowKit

def wcells : List Wr → List Value
  | [] => []
  | x :: L => .int .i64 x.block :: .string x.data :: wcells L
theorem wcells_length : ∀ L : List Wr, (wcells L).length = L.length * 2
  | [] => rfl
  | x :: L => by simp only [wcells, List.length_cons, wcells_length L]; omega
theorem wcells_append : ∀ A B : List Wr, wcells (A ++ B) = wcells A ++ wcells B
  | [], B => rfl
  | x :: A, B => by simp [wcells, wcells_append A B]
theorem wcells_at : ∀ (L : List Wr) (i : Nat) (x : Wr), L[i]? = some x → (wcells L)[i * 2]? = some (.int .i64 x.block) ∧ (wcells L)[i * 2 + 1]? = some (.string x.data)
  | [], i, x, h => by simp at h
  | y :: L, 0, x, h => by simp at h; subst h; exact ⟨rfl, rfl⟩
  | y :: L, i + 1, x, h => by
    have := wcells_at L i x (by simpa using h)
    rw [show (i + 1) * 2 = i * 2 + 2 by omega]
    exact this
theorem wcells_one (L : List Wr) : ∀ u ∈ wcells L, u.oneCell' = true := by
  induction L with
  | nil => intro u h; simp [wcells] at h
  | cons x L ih =>
    intro u h
    simp only [wcells, List.mem_cons] at h
    rcases h with rfl | rfl | h
    · rfl
    · rfl
    · exact ih u h
theorem wcells_set : ∀ (L : List Wr) (k : Nat) (x : Wr), k < L.length → ((wcells L).set (k * 2) (.int .i64 x.block)).set (k * 2 + 1) (.string x.data) = wcells (L.set k x)
  | [], k, x, h => by simp at h
  | y :: L, 0, x, h => rfl
  | y :: L, k + 1, x, h => by
    have := wcells_set L k x (by simpa using h)
    rw [show (k + 1) * 2 = k * 2 + 2 by omega]
    rw [show k * 2 + 2 + 1 = (k * 2 + 1) + 2 by omega]
    simp only [wcells, List.set_cons_succ, this]

/-- v is the call's own row of the writes L -/
def OwnW (B : Nat) (e : TypeId) (v : Value) (L : List Wr) (W0 w : World) : Prop := w.ownsRow B e 2 v L.length (wcells L) ∧ Below B W0 w ∧ B ≤ w.heap.size
theorem OwnW.nil {B : Nat} {e : TypeId} {W0 w : World} (hb : Below B W0 w) (h : B ≤ w.heap.size) : OwnW B e (.slice none 0 0) [] W0 w := ⟨World.ownsRow_nil _ _ _ _, hb, h⟩
theorem OwnW.below {B : Nat} {e : TypeId} {v : Value} {L : List Wr} {W0 w : World} (h : OwnW B e v L W0 w) : Below B W0 w := h.2.1
theorem OwnW.alloc {B : Nat} {e : TypeId} {v : Value} {L : List Wr} {W0 w : World} (h : OwnW B e v L W0 w) (o : Obj) : OwnW B e v L W0 (w.alloc o) := ⟨h.1.alloc o, h.2.1.alloc h.2.2 o, Nat.le_trans h.2.2 (by simp)⟩
theorem OwnW.cast {B : Nat} {e : TypeId} {v : Value} {l l' : List Wr} {W0 w : World} (h : OwnW B e v l W0 w) (hl : l = l') : OwnW B e v l' W0 w := hl ▸ h
theorem OwnW.drew {B : Nat} {e : TypeId} {v : Value} {l : List Wr} {W0 w : World} (h : OwnW B e v l W0 w) : OwnW B e v l W0 w.drew := ⟨h.1, h.2.1.drew, h.2.2⟩
theorem OwnW.drewN {B : Nat} {e : TypeId} {v : Value} {l : List Wr} {W0 w : World} (h : OwnW B e v l W0 w) (n : Nat) : OwnW B e v l W0 (w.drewN n) := ⟨h.1, below_dr h.2.1 n, h.2.2⟩
theorem OwnW.grown {B : Nat} {e : TypeId} {v v' : Value} {L L' : List Wr} {W0 w w' : World} (h : OwnW B e v L W0 w) (ho : w'.ownsRow B e 2 v' L'.length (wcells L')) (hg : w.grownBy w' v.ownBlock) : OwnW B e v' L' W0 w' :=
  ⟨ho, h.2.1.grown hg h.2.2 (fun k hk => (h.1.lt k hk).1), Nat.le_trans h.2.2 hg.size⟩
theorem OwnW.past {B : Nat} {e : TypeId} {v : Value} {l : List Wr} {W0 w w' : World} (h : OwnW B e v l W0 w) (hb : Below w.heap.size w w') : OwnW B e v l W0 w' := by
  obtain ⟨h1, h2, h3⟩ := h
  refine ⟨⟨h1.1, ?_⟩, h2.trans (hb.mono h3), Nat.le_trans h3 hb.size⟩
  rcases h1.2 with hn | ⟨g, cap, cur, hv, hB, hg, rest⟩
  · exact .inl hn
  · exact .inr ⟨g, cap, cur, hv, hB, by rw [hb.block g (Array.getElem?_eq_some_iff.1 hg).1]; exact hg, rest⟩
theorem OwnW.lower {B B' : Nat} {e : TypeId} {v : Value} {L : List Wr} {W0 W1 w : World} (h : OwnW B' e v L W1 w) (hB : B ≤ B') (hb : Below B W0 W1) : OwnW B e v L W0 w := by
  obtain ⟨h1, h2, h3⟩ := h
  refine ⟨⟨h1.1, ?_⟩, hb.trans (h2.mono hB), Nat.le_trans hB h3⟩
  rcases h1.2 with hn | ⟨g, cap, cur, hv, hg, rest⟩
  · exact .inl hn
  · exact .inr ⟨g, cap, cur, hv, Nat.le_trans hB hg, rest⟩
theorem OwnW.isSlice {B : Nat} {e : TypeId} {v : Value} {L : List Wr} {W0 w : World} (h : OwnW B e v L W0 w) : ∃ p c, v = .slice p L.length c := by
  rcases h.1.2 with ⟨rfl, hn⟩ | ⟨_, cap, _, rfl, _⟩
  · exact ⟨none, 0, by rw [hn]⟩
  · exact ⟨_, cap, rfl⟩
theorem OwnW.shape {B : Nat} {e : TypeId} {v : Value} {L : List Wr} {W0 w : World} (h : OwnW B e v L W0 w) (hne : 0 < L.length) : ∃ g cap, v = .slice (some ⟨g, 0, none⟩) L.length cap ∧ B ≤ g ∧ g < w.heap.size ∧ L.length ≤ cap := by
  rcases h.1.2 with ⟨_, hn⟩ | ⟨g, cap, cur, rfl, hB, hg, hcap, _⟩
  · omega
  · exact ⟨g, cap, rfl, hB, (Array.getElem?_eq_some_iff.1 hg).1, hcap⟩
theorem OwnW.cell {B g cap n : Nat} {e : TypeId} {L : List Wr} {W0 w : World} (h : OwnW B e (.slice (some ⟨g, 0, none⟩) n cap) L W0 w) {k : Nat} {x : Wr} (hx : L[k]? = some x) :
    w.cell? ⟨g, k * 2, none⟩ = some (.int .i64 x.block) ∧ w.cell? ⟨g, k * 2 + 1, none⟩ = some (.string x.data) ∧ (∀ j, w.frozen? ⟨g, j, none⟩ = false) ∧ n = L.length := by
  have hk := (List.getElem?_eq_some_iff.1 hx).1
  have hnL : n = L.length := by
    rcases h.1.2 with ⟨h', _⟩ | ⟨g', cap', cur, h', _⟩
    · cases h'
    · cases h'; rfl
  subst hnL
  obtain ⟨c0, c1⟩ := wcells_at L k x hx
  exact ⟨(h.1.cellAt _ (by omega)).trans c0, (h.1.cellAt _ (by omega)).trans c1, h.1.frozenAt, rfl⟩
theorem OwnW.writes {B : Nat} {e : TypeId} {v : Value} {L : List Wr} {W0 w : World} (h : OwnW B e v L W0 w) (hl : L.length ≤ 140737488355328) : WritesAt w v L := by
  have h' := h
  obtain ⟨h1, _, _⟩ := h'
  rcases h1.2 with ⟨rfl, hn⟩ | ⟨g, cap, cur, rfl, hB, hg, hcap, _, _, htk⟩
  · have : L = [] := List.eq_nil_of_length_eq_zero hn
    subst this
    exact ⟨none, 0, rfl, hl, fun _ => rfl, fun i x hx => by simp at hx⟩
  · refine ⟨some ⟨g, 0, none⟩, cap, rfl, hl, (fun h => by cases h), fun i x hx => ⟨g, 0, rfl, (Array.getElem?_eq_some_iff.1 hg).1, ?_⟩⟩
    obtain ⟨c0, c1, _, _⟩ := h.cell hx
    exact ⟨by rw [Nat.zero_add]; exact c0, by rw [Nat.zero_add]; exact c1⟩
/-- 'data[k] = x' -/
theorem OwnW.set {B g cap n : Nat} {e : TypeId} {L : List Wr} {W0 w : World} (h : OwnW B e (.slice (some ⟨g, 0, none⟩) n cap) L W0 w) {k : Nat} (hk : k < L.length) (x : Wr) :
    OwnW B e (.slice (some ⟨g, 0, none⟩) n cap) (L.set k x) W0 ((w.setCell ⟨g, k * 2, none⟩ (.int .i64 x.block)).setCell ⟨g, k * 2 + 1, none⟩ (.string x.data)) := by
  obtain ⟨_, _, _, rfl⟩ := h.cell (List.getElem?_eq_getElem hk)
  obtain ⟨h1, g1⟩ := h.1.stored (k * 2) (.int .i64 x.block)
  obtain ⟨h2, g2⟩ := h1.stored (k * 2 + 1) (.string x.data)
  rw [wcells_set L k x hk] at h2
  have hg : B ≤ g := (h.1.lt g rfl).1
  refine ⟨by rw [List.length_set]; exact h2, (h.2.1.setCell (p := ⟨g, _, none⟩) hg _).setCell (p := ⟨g, _, none⟩) hg _, Nat.le_trans h.2.2 (Nat.le_trans g1.size g2.size)⟩

/-! ### sorting -/
def bk (L : List Wr) (p : Nat) : Int := (L[p]?.getD ⟨0, ⟨#[]⟩⟩).block
theorem bk_at {L : List Wr} {p : Nat} {x : Wr} (h : L[p]? = some x) : bk L p = x.block := by unfold bk; rw [h]; rfl
/-- the state of the inner loop -/
structure Ins (L : List Wr) (i j : Nat) : Prop where
  rest : ∀ p q, p < q → q ≤ i → p ≠ j → q ≠ j → bk L p ≤ bk L q
  up : ∀ q, j < q → q ≤ i → bk L j ≤ bk L q
def SortedTo (L : List Wr) (i : Nat) : Prop := ∀ p q, p < q → q < i → bk L p ≤ bk L q
theorem Ins.start {L : List Wr} {i : Nat} (h : SortedTo L i) : Ins L i i := ⟨fun p q h1 h2 _ h4 => h p q h1 (by omega), fun q h1 h2 => by omega⟩
theorem Ins.done {L : List Wr} {i j : Nat} (h : Ins L i j) (hj : j = 0 ∨ bk L (j - 1) ≤ bk L j) : SortedTo L (i + 1) := by
  intro p q hpq hq
  by_cases h1 : p = j
  · subst h1; exact h.up q hpq (by omega)
  · by_cases h2 : q = j
    · subst h2
      rcases hj with h0 | h0
      · omega
      · by_cases h3 : p = q - 1
        · rw [h3]; exact h0
        · have := h.rest p (q - 1) (by omega) (by omega) h1 (by omega)
          omega
    · exact h.rest p q hpq (by omega) h1 h2
theorem Ins.swap {L : List Wr} {i m : Nat} {x y : Wr} (h : Ins L i (m + 1)) (hm : m + 1 ≤ i) (hx : L[m + 1]? = some x) (hy : L[m]? = some y) (hlt : x.block < y.block) : Ins ((L.set (m + 1) y).set m x) i m := by
  have hlx := (List.getElem?_eq_some_iff.1 hx).1
  have hb : ∀ p, bk ((L.set (m + 1) y).set m x) p = if p = m then bk L (m + 1) else if p = m + 1 then bk L m else bk L p := by
    intro p
    unfold bk
    by_cases h1 : p = m
    · subst h1
      rw [if_pos rfl, hx]
      simp [show p < L.length by omega]
    · rw [if_neg h1, List.getElem?_set_ne (by omega)]
      by_cases h2 : p = m + 1
      · subst h2
        rw [if_pos rfl, hy]
        simp [hlx]
      · rw [if_neg h2, List.getElem?_set_ne (by omega)]
  have e1 := bk_at hx
  have e2 := bk_at hy
  refine ⟨fun p q hpq hq hp hqm => ?_, fun q h1 h2 => ?_⟩
  · rw [hb, hb, if_neg hp, if_neg hqm]
    by_cases h3 : p = m + 1
    · rw [if_pos h3, if_neg (by omega)]
      exact h.rest m q (by omega) hq (by omega) (by omega)
    · rw [if_neg h3]
      by_cases h4 : q = m + 1
      · rw [if_pos h4]
        exact h.rest p m (by omega) (by omega) h3 (by omega)
      · rw [if_neg h4]
        exact h.rest p q hpq hq h3 h4
  · rw [hb, hb, if_pos rfl, if_neg (by omega)]
    by_cases h3 : q = m + 1
    · rw [if_pos h3]; omega
    · rw [if_neg h3]
      exact h.up q (by omega) h2
theorem swap_perm {L : List Wr} {m : Nat} {x y : Wr} (hx : L[m + 1]? = some x) (hy : L[m]? = some y) : ((L.set (m + 1) y).set m x).Perm L := by
  obtain ⟨h1, rfl⟩ := List.getElem?_eq_some_iff.1 hx
  obtain ⟨h2, rfl⟩ := List.getElem?_eq_some_iff.1 hy
  exact List.set_set_perm h1 h2
theorem SortedTo.pw {L : List Wr} (h : SortedTo L L.length) : L.Pairwise (fun x y => x.block ≤ y.block) := by
  rw [List.pairwise_iff_getElem]
  intro p q hp hq hpq
  have := h p q hpq hq
  rw [bk_at (List.getElem?_eq_getElem hp), bk_at (List.getElem?_eq_getElem hq)] at this
  exact this
section
variable {P : Program}
/-- one write more -/
theorem wpList_own_write {ops : Array Oper} {rest : List Oper} {o : Oper} {a : Act} {Q : Exit → Act → World → Prop} (hgd : o.guard = none) (s x : Operand) (t : TypeId)
    (ho : o.op = .call { callee := .builtin .append, args := #[s, x], argTypes := #[t, t] })
    (B : Nat) (e : TypeId) (i : TypeInfo) (z : Value) (ht : P.underlying t = some (.slice e)) (hi : P.info? e = some i) (hz : i.zero = some z) (hzs : z.cells.size = 2) (hsize : i.size = 2) (hby : i.bytes = 24)
    (v : Value) (L : List Wr) (hs : a.eval s = v) (W0 w0 : World) (y : Wr) (hb : OwnW B e v L W0 w0)
    (g : Nat) (hx : a.eval x = .slice (some ⟨g, 0, none⟩) 1 1) (hgw : g = w0.heap.size) (hlen : L.length + 1 ≤ 1000000)
    (h : ∀ v' w', OwnW B e v' (L ++ [y]) W0 w' → wpList P ops Q rest (a.put o.dst v') w') : wpList P ops Q (o :: rest) a (w0.alloc (.cells #[.int .i64 y.block, .string y.data] e)) := by
  subst hgw
  have hb' := hb.alloc (.cells #[.int .i64 y.block, .string y.data] e)
  refine wpList_append_own _ hgd s x t ho B e i z 2 24 ht hi hz hsize hby hzs (by decide) v L.length (wcells L) hs hb'.1 ⟨w0.heap.size, 0, none⟩ 1 1 (wcells [y]) hx rfl ?_ (wcells_one _) (by unfold maxLen; omega) (by omega) hb'.2.2 ?_
  · intro j u hj
    match j, hj with
    | 0, hj => simp [wcells] at hj; subst hj; simp [Addr.add]
    | 1, hj => simp [wcells] at hj; subst hj; simp [Addr.add]
    | (j + 2), hj => simp [wcells] at hj
  · intro v' w' ho' hg _
    exact h v' w' (hb'.grown (by rw [wcells_append, List.length_append]; exact ho') hg)
/-- the same as one step of a region that draws -/
theorem step_own_write {ops : Array Oper} {o : Oper} {a : Act} {K : Act → World → Prop} {Q : Exit → Act → World → Prop} {E : Prop} (hgd : o.guard = none) (s x : Operand) (t : TypeId)
    (ho : o.op = .call { callee := .builtin .append, args := #[s, x], argTypes := #[t, t] })
    (B : Nat) (e : TypeId) (i : TypeInfo) (z : Value) (ht : P.underlying t = some (.slice e)) (hi : P.info? e = some i) (hz : i.zero = some z) (hzs : z.cells.size = 2) (hsize : i.size = 2) (hby : i.bytes = 24)
    (v : Value) (L : List Wr) (hs : a.eval s = v) (W0 w0 : World) (y : Wr) (hb : OwnW B e v L W0 w0)
    (g : Nat) (hx : a.eval x = .slice (some ⟨g, 0, none⟩) 1 1) (hgw : g = w0.heap.size) (hlen : L.length + 1 ≤ 1000000)
    (hK : ∀ v' w', OwnW B e v' (L ++ [y]) W0 w' → K (a.put o.dst v') w') : if Region.wanted o (yielded ops a.tmps) = true then Oper.wp P o a (w0.alloc (.cells #[.int .i64 y.block, .string y.data] e)) K Q else E := by
  have hw : Region.wanted o (yielded ops a.tmps) = true := by simp [Region.wanted, hgd]
  rw [if_pos hw]
  subst hgw
  have hb' := hb.alloc (.cells #[.int .i64 y.block, .string y.data] e)
  obtain ⟨v', w', hrun, ho', hg, _⟩ := run_append_own (P := P) (w0.alloc (.cells #[.int .i64 y.block, .string y.data] e)) B t o.type e i z 2 24 ht hi hz hsize hby hzs (by decide) v L.length (wcells L) hb'.1 ⟨w0.heap.size, 0, none⟩ 1 1 (wcells [y]) rfl (by
    intro j u hj
    match j, hj with
    | 0, hj => simp [wcells] at hj; subst hj; simp [Addr.add]
    | 1, hj => simp [wcells] at hj; subst hj; simp [Addr.add]
    | (j + 2), hj => simp [wcells] at hj) (wcells_one _) (by unfold maxLen; omega) (by omega) hb'.2.2
  unfold Oper.wp
  simp [execOp, ho, resolve, invoke, builtin, hs, hx, hrun, Result.andThen]
  exact hK _ _ (hb'.grown (by rw [wcells_append, List.length_append]; exact ho') hg)
end

theorem infoWrite : (Try.prog.info? 61).map (fun i => (i.zero, i.size, i.bytes)) = some (some (.agg #[.int .i64 0, .string ⟨#[]⟩]), 2, 24) := by kernel_rfl
end Go.Proofs.Ythjaanhkmfiajac

/- The state of the two loops that apply writes: a volume in a box, its blocks in a row. Condition: as its statements list. -/
namespace Go.Proofs.Ythjaanhkmfiajac
open Go.RowKit

theorem row_setOther {B size g k : Nat} {e : TypeId} {v x : Value} {n : Nat} {xs : List Value} {w : World} (h : w.ownsRow B e size v n xs) (hg : v.ownBlock ≠ some g) : (w.setCell ⟨g, k, none⟩ x).ownsRow B e size v n xs := by
  refine ⟨h.1, ?_⟩
  rcases h.2 with hn | ⟨b, cap, cur, hv, hB, hb, rest⟩
  · exact .inl hn
  · have hne : b ≠ g := by
      subst hv
      intro e
      exact hg (by rw [← e]; rfl)
    exact .inr ⟨b, cap, cur, hv, hB, by rw [Below.heap_setCell _ _ _ _ hne]; exact hb, rest⟩
theorem row_past {B size : Nat} {e : TypeId} {v : Value} {n : Nat} {xs : List Value} {w w' : World} (h : w.ownsRow B e size v n xs) (hb : Below w.heap.size w w') : w'.ownsRow B e size v n xs := by
  refine ⟨h.1, ?_⟩
  rcases h.2 with hn | ⟨b, cap, cur, hv, hB, hg, rest⟩
  · exact .inl hn
  · exact .inr ⟨b, cap, cur, hv, hB, by rw [hb.block b (Array.getElem?_eq_some_iff.1 hg).1]; exact hg, rest⟩
theorem row_weak {B B' size : Nat} {e : TypeId} {v : Value} {n : Nat} {xs : List Value} {w : World} (h : w.ownsRow B' e size v n xs) (hB : B ≤ B') : w.ownsRow B e size v n xs := by
  refine ⟨h.1, ?_⟩
  rcases h.2 with hn | ⟨b, cap, cur, hv, hb, rest⟩
  · exact .inl hn
  · exact .inr ⟨b, cap, cur, hv, Nat.le_trans hB hb, rest⟩

/-- the state of the two loops: out lies in block O, the result in block R, out's blocks in row g -/
structure ApSt (B O R g cap : Nat) (wr : World) (vi : Value) (V : Vol) : Prop where
  o0 : wr.cell? ⟨O, 0, none⟩ = some vi
  o1 : wr.cell? ⟨O, 1, none⟩ = some (.slice (some ⟨g, 0, none⟩) V.blocks.length cap)
  fo : wr.frozen? ⟨O, 0, none⟩ = false
  r0 : wr.cell? ⟨R, 0, none⟩ = some (.slice none 0 0)
  r1 : wr.cell? ⟨R, 1, none⟩ = some (.slice none 0 0)
  f0 : wr.frozen? ⟨R, 0, none⟩ = false
  f1 : wr.frozen? ⟨R, 1, none⟩ = false
  oi : wr.ownsRow B 55 3 vi V.items.length (icells V.items)
  oz : wr.ownsRow B 3 1 (.slice (some ⟨g, 0, none⟩) V.blocks.length cap) V.blocks.length (zcells V.blocks)
  nO : vi.ownBlock ≠ some O
  ng : vi.ownBlock ≠ some g
  hR : R < B
  hg : B ≤ g
  hgO : g < O
  hO : O < wr.heap.size
theorem ApSt.past {B O R g cap : Nat} {wr w' : World} {vi : Value} {V : Vol} (h : ApSt B O R g cap wr vi V) (hb : Below wr.heap.size wr w') : ApSt B O R g cap w' vi V := by
  have hO := h.hO
  have hR : R < wr.heap.size := by have := h.hR; have := h.hg; have := h.hgO; omega
  exact ⟨(hb.cell (p := ⟨O, 0, none⟩) hO).trans h.o0, (hb.cell (p := ⟨O, 1, none⟩) hO).trans h.o1, (hb.frozen (p := ⟨O, 0, none⟩) hO).trans h.fo,
    (hb.cell (p := ⟨R, 0, none⟩) hR).trans h.r0, (hb.cell (p := ⟨R, 1, none⟩) hR).trans h.r1, (hb.frozen (p := ⟨R, 0, none⟩) hR).trans h.f0, (hb.frozen (p := ⟨R, 1, none⟩) hR).trans h.f1,
    row_past h.oi hb, row_past h.oz hb, h.nO, h.ng, h.hR, h.hg, h.hgO, Nat.lt_of_lt_of_le hO hb.size⟩
theorem ApSt.drew {B O R g cap : Nat} {wr : World} {vi : Value} {V : Vol} (h : ApSt B O R g cap wr vi V) : ApSt B O R g cap wr.drew vi V := h.past (Below.refl _ _).drew
theorem ApSt.items {B O R g cap : Nat} {wr : World} {vi : Value} {V : Vol} (h : ApSt B O R g cap wr vi V) (hl : V.items.length ≤ 1000) : ItemsAt wr vi V.items :=
  OwnI.items (B := B) (W0 := wr) ⟨h.oi, Below.refl _ _, by have := h.hO; have := h.hg; have := h.hgO; omega⟩ (by omega)
theorem ApSt.block {B O R g cap : Nat} {wr : World} {vi : Value} {V : Vol} (h : ApSt B O R g cap wr vi V) {k : Nat} {z : Int} (hz : V.blocks[k]? = some z) :
    wr.cell? ⟨g, k, none⟩ = some (.int .i64 z) ∧ wr.frozen? ⟨g, k, none⟩ = false := by
  have := OwnZ.cell (B := B) (W0 := wr) ⟨h.oz, Below.refl _ _, by have := h.hO; have := h.hg; have := h.hgO; omega⟩ hz
  exact ⟨this.1, this.2.1 k⟩
/-- new items, and a block's cell -/
theorem ApSt.step {B O R g cap : Nat} {wr w2 : World} {vi v2 : Value} {V : Vol} {I : List It} {k : Nat} (h : ApSt B O R g cap wr vi V) (h2 : OwnI wr.heap.size 55 v2 I wr w2) (hk : k < V.blocks.length) (z : Int) :
    ApSt B O R g cap ((w2.setCell ⟨O, 0, none⟩ v2).setCell ⟨g, k, none⟩ (.int .i64 z)) v2 ⟨I, V.blocks.set k z⟩ := by
  have hp := h.past h2.below
  have hO := h.hO
  have hg := h.hg
  have hgO := h.hgO
  have hR := h.hR
  have nO2 : v2.ownBlock ≠ some O := fun e => by have := (h2.1.lt _ e).1; omega
  have ng2 : v2.ownBlock ≠ some g := fun e => by have := (h2.1.lt _ e).1; omega
  have hne1 : (⟨O, 0, none⟩ : Addr) ≠ ⟨O, 1, none⟩ := by simp
  have hgo : (⟨g, k, none⟩ : Addr) ≠ ⟨O, 0, none⟩ := by intro e; injection e; omega
  have hgo1 : (⟨g, k, none⟩ : Addr) ≠ ⟨O, 1, none⟩ := by intro e; injection e; omega
  have hr : ∀ j, (⟨O, 0, none⟩ : Addr) ≠ ⟨R, j, none⟩ := fun j => by intro e; injection e; omega
  have hr2 : ∀ j, (⟨g, k, none⟩ : Addr) ≠ ⟨R, j, none⟩ := fun j => by intro e; injection e; omega
  have hoz : (w2.setCell ⟨O, 0, none⟩ v2).ownsRow B 3 1 (.slice (some ⟨g, 0, none⟩) V.blocks.length cap) V.blocks.length (zcells V.blocks) := row_setOther hp.oz (by simp [Value.ownBlock]; omega)
  have hozz : OwnZ B 3 (.slice (some ⟨g, 0, none⟩) V.blocks.length cap) V.blocks (w2.setCell ⟨O, 0, none⟩ v2) (w2.setCell ⟨O, 0, none⟩ v2) := ⟨hoz, Below.refl _ _, by rw [size_setCell]; have := hp.hO; omega⟩
  have hset := hozz.set hk z
  refine ⟨?_, ?_, ?_, ?_, ?_, ?_, ?_, ?_, ?_, nO2, ng2, hR, hg, hgO, ?_⟩
  · exact (World.cell?_setCell_other _ _ _ _ hgo).trans (World.cell?_setCell_same _ _ _ hp.o0)
  · show _ = some (Value.slice (some ⟨g, 0, none⟩) (V.blocks.set k z).length cap)
    rw [List.length_set]
    exact (World.cell?_setCell_other _ _ _ _ hgo1).trans ((World.cell?_setCell_other _ _ _ _ hne1).trans hp.o1)
  · simp [hp.fo]
  · exact (World.cell?_setCell_other _ _ _ _ (hr2 0)).trans ((World.cell?_setCell_other _ _ _ _ (hr 0)).trans hp.r0)
  · exact (World.cell?_setCell_other _ _ _ _ (hr2 1)).trans ((World.cell?_setCell_other _ _ _ _ (hr 1)).trans hp.r1)
  · simp [hp.f0]
  · simp [hp.f1]
  · exact row_weak (B' := wr.heap.size) (row_setOther (row_setOther h2.1 nO2) ng2) (by omega)
  · have := hset.1
    show World.ownsRow _ B _ 1 (.slice (some ⟨g, 0, none⟩) (V.blocks.set k z).length cap) _ _
    rw [List.length_set] at this ⊢
    exact this
  · rw [size_setCell, size_setCell]; exact hp.hO

theorem dropW_len (V : Vol) (x : Wr) : (dropW V x).blocks.length = V.blocks.length := by
  unfold dropW
  split
  · split <;> simp
  · rfl
theorem dropAll_len : ∀ (W : List Wr) (V : Vol), (W.foldl dropW V).blocks.length = V.blocks.length
  | [], _ => rfl
  | x :: W, V => by rw [List.foldl_cons, dropAll_len W, dropW_len]
theorem dropped_le (L : List It) (id : Int) : (dropped L id).1.length ≤ L.length := by
  unfold dropped
  split
  · simp
  · exact fm_len _ _
theorem dropW_le (V : Vol) (x : Wr) : (dropW V x).items.length ≤ V.items.length := by
  unfold dropW
  split
  · split
    · exact dropped_le _ _
    · exact Nat.le_refl _
  · exact Nat.le_refl _
theorem dropAll_le : ∀ (W : List Wr) (V : Vol), (W.foldl dropW V).items.length ≤ V.items.length
  | [], _ => Nat.le_refl _
  | x :: W, V => by rw [List.foldl_cons]; exact Nat.le_trans (dropAll_le W _) (dropW_le V x)
theorem fold_snoc {W : List Wr} {k : Nat} {x : Wr} (hx : W[k]? = some x) (V : Vol) : (W.take (k + 1)).foldl dropW V = dropW ((W.take k).foldl dropW V) x := by
  rw [take_snoc hx, List.foldl_append]; rfl
theorem dropW_some {V : Vol} {x : Wr} {z : Int} (hz : V.blocks[x.block.toNat]? = some z) (h0 : 0 ≤ z) : dropW V x = ⟨(dropped V.items z).1, V.blocks.set x.block.toNat (-1)⟩ := by
  unfold dropW; rw [hz]; simp only; rw [if_pos h0]
theorem dropW_none {V : Vol} {x : Wr} {z : Int} (hz : V.blocks[x.block.toNat]? = some z) (h0 : ¬ 0 ≤ z) : dropW V x = V := by
  unfold dropW; rw [hz]; simp only; rw [if_neg h0]
theorem used_le' (L : List It) (id : Int) : (used L id).1.length ≤ L.length := by
  unfold used
  split
  · simp
  · split
    · simp
    · split <;> simp
theorem kept_len (L : List It) (d : ByteArray) : (kept L d).1.length ≤ 49 := by
  unfold kept
  split
  · simp
  · rename_i hm
    have hl := may_len (by simpa using hm)
    split
    · simp
    · split
      · split
        · simp
        · have := used_le' L (L[‹Nat›]?.getD It.zero).id
          simp only; omega
      · split
        · simp
        · have h1 := List.length_filter_le (fun x : It => decide (x.id < (freeId L : Int))) L
          have h2 := List.length_filter_le (fun x : It => decide ((freeId L : Int) < x.id)) L
          simp only [List.length_append, List.length_singleton]; omega
theorem keepW_len (V : Vol) (x : Wr) (h : (keepW V x).2 = 0) : (keepW V x).1.blocks.length = V.blocks.length := by
  unfold keepW at h ⊢
  split
  · rename_i hd
    rw [if_pos hd] at h
    split
    · simp
    · rename_i hk; rw [if_neg hk] at h; exact absurd h hk
  · rfl
theorem keepAll_go {V : Vol} {x : Wr} {W : List Wr} (h : (keepW V x).2 = 0) : keepAll V (x :: W) = keepAll (keepW V x).1 W := by
  show (if _ then _ else _) = _; rw [if_pos h]
theorem keepAll_stop {V : Vol} {x : Wr} {W : List Wr} (h : (keepW V x).2 ≠ 0) : keepAll V (x :: W) = (⟨[], []⟩, (keepW V x).2) := by
  show (if _ then _ else _) = _; rw [if_neg h]

theorem RetVol.none {n : Int} {w w' : World} (hb : Below w.heap.size w w') : RetVol ⟨[], []⟩ n w (.returned (.tuple #[.agg #[.slice none 0 0, .slice none 0 0], .int .i64 n])) w' := ⟨_, _, rfl, OwnVol.none hb hb.size⟩
/-- the state's end -/
theorem ApSt.done {B O g cap : Nat} {w wr : World} {vi : Value} {V : Vol} (h : ApSt B O (w.heap.size + 1) g cap wr vi V) (hB : w.heap.size + 2 = B) (hb : Below w.heap.size w wr) (a b : Value) :
    OwnVol w.heap.size vi (.slice (some ⟨g, 0, none⟩) V.blocks.length cap) V w ((wr.setCell ⟨w.heap.size + 1, 0, none⟩ a).setCell ⟨w.heap.size + 1, 1, none⟩ b) := by
  have hO := h.hO
  have hg := h.hg
  have hgO := h.hgO
  have hbf : Below w.heap.size w ((wr.setCell ⟨w.heap.size + 1, 0, none⟩ a).setCell ⟨w.heap.size + 1, 1, none⟩ b) :=
    (hb.setCell (p := ⟨w.heap.size + 1, 0, none⟩) (Nat.le_succ _) a).setCell (p := ⟨w.heap.size + 1, 1, none⟩) (Nat.le_succ _) b
  refine ⟨⟨row_weak (B' := B) (row_setBox (row_setBox h.oi (by omega)) (by omega)) (by omega), hbf, hbf.size⟩, ⟨row_weak (B' := B) (row_setBox (row_setBox h.oz (by omega)) (by omega)) (by omega), hbf, hbf.size⟩, Or.inr (fun e => h.ng e)⟩

theorem Past22.frz {w wr : World} {a b c d : Value} {T : TypeId} (h : Past22 w a b c d T wr) : wr.frozen? ⟨w.heap.size + 1, 0, none⟩ = false ∧ wr.frozen? ⟨w.heap.size + 1, 1, none⟩ = false ∧ w.heap.size + 2 ≤ wr.heap.size := by
  refine ⟨?_, ?_, ?_⟩
  · rw [Below.frozen h (p := ⟨w.heap.size + 1, 0, none⟩) (by simp)]; simp
  · rw [Below.frozen h (p := ⟨w.heap.size + 1, 1, none⟩) (by simp)]; simp
  · have := h.size; simpa using this
theorem Past22.next {w wr w2 : World} {a b c d : Value} {T : TypeId} (h : Past22 w a b c d T wr) (h2 : Below wr.heap.size wr w2) : Past22 w a b c d T w2 := below_then h h2
theorem below_res {w wr : World} (hb : Below w.heap.size w wr) (a b : Value) : Below w.heap.size w ((wr.setCell ⟨w.heap.size + 1, 0, none⟩ a).setCell ⟨w.heap.size + 1, 1, none⟩ b) :=
  (hb.setCell (p := ⟨w.heap.size + 1, 0, none⟩) (Nat.le_succ _) a).setCell (p := ⟨w.heap.size + 1, 1, none⟩) (Nat.le_succ _) b
theorem applied_ok {V : Vol} {W : List Wr} (hm : volB V = true) (hf : wFault W V.blocks.length = 0) : applied V W = keepAll (W.foldl dropW V) W := by
  unfold applied; rw [if_neg (by simp [hm]), if_neg (by simp [hf])]
theorem wf_all {W : List Wr} {n : Nat} (h : wFault W (n : Int) = 0) {k : Nat} {x : Wr} (hx : W[k]? = some x) : 0 ≤ x.block ∧ x.block < (n : Int) ∧ x.data.size ≤ 48 := (wFault_ok h).all x (List.mem_of_getElem? hx)

theorem ApSt.isSlice {B O R g cap : Nat} {wr : World} {vi : Value} {V : Vol} (h : ApSt B O R g cap wr vi V) : ∃ p c, vi = .slice p V.items.length c := by
  rcases h.oi.2 with ⟨rfl, hn⟩ | ⟨_, cap, _, rfl, _⟩
  · exact ⟨none, 0, by rw [hn]⟩
  · exact ⟨_, cap, rfl⟩
theorem keepW_le (V : Vol) (x : Wr) (h : V.items.length ≤ 49) : (keepW V x).1.items.length ≤ 49 := by
  unfold keepW
  split
  · split
    · exact kept_len _ _
    · simp
  · exact h
theorem ApSt.start {w w2 w3 : World} {a b : Value} {vi : Value} {g cap n : Nat} {V : Vol} (hP : Past22 w a b (.slice none 0 0) (.slice none 0 0) 27 w2)
    (hn : n = V.blocks.length) (hown : OwnVol w2.heap.size vi (.slice (some ⟨g, 0, none⟩) n cap) V w2 w3) :
    ApSt (w.heap.size + 2) w3.heap.size (w.heap.size + 1) g cap (w3.alloc (.cells #[vi, .slice (some ⟨g, 0, none⟩) n cap] 27)) vi V := by
  subst hn
  have hP3 := hP.next hown.below
  obtain ⟨_, _, b0, b1⟩ := hP3.cells
  obtain ⟨g0, g1, hs3⟩ := hP3.frz
  have hs2 := hP.frz.2.2
  have hgl := hown.2.1.1.lt g rfl
  have hne0 : w.heap.size + 1 ≠ w3.heap.size := by omega
  refine ⟨by simp, by simp, by simp, ?_, ?_, ?_, ?_, row_weak (hown.1.1.alloc _) hs2, row_weak (hown.2.1.1.alloc _) hs2, ?_, ?_, by omega, by omega, hgl.2, by simp⟩
  · rw [World.cell?_alloc_lt _ _ _ (show w.heap.size + 1 < w3.heap.size by omega)]; exact b0
  · rw [World.cell?_alloc_lt _ _ _ (show w.heap.size + 1 < w3.heap.size by omega)]; exact b1
  · have := (below_alloc (Below.refl w3.heap.size w3) (.cells #[vi, .slice (some ⟨g, 0, none⟩) V.blocks.length cap] 27)).frozen (p := ⟨w.heap.size + 1, 0, none⟩) (show w.heap.size + 1 < w3.heap.size by omega)
    rw [this]; exact g0
  · have := (below_alloc (Below.refl w3.heap.size w3) (.cells #[vi, .slice (some ⟨g, 0, none⟩) V.blocks.length cap] 27)).frozen (p := ⟨w.heap.size + 1, 1, none⟩) (show w.heap.size + 1 < w3.heap.size by omega)
    rw [this]; exact g1
  · intro e; have := (hown.1.1.lt _ e).2; omega
  · intro e
    rcases hown.2.2 with h | h
    · rw [h] at e; cases e
    · exact h e
end Go.Proofs.Ythjaanhkmfiajac

/- A row of items known whole, written by append in place, by clear and by copy: run equations and steps. No condition. -/
namespace Go.Proofs.Ythjaanhkmfiajac
open Go.RowKit

/-- the row behind a write of cells at a place -/
def over (cur : Array Value) (o : Nat) (cs : List Value) : Array Value := (cur.toList.take o ++ cs ++ cur.toList.drop (o + cs.length)).toArray
theorem over_size {cur : Array Value} {o : Nat} {cs : List Value} (h : o + cs.length ≤ cur.size) : (over cur o cs).size = cur.size := by
  simp [over]; omega
theorem over_take {cur : Array Value} {o : Nat} {cs : List Value} (h : o + cs.length ≤ cur.size) : (over cur o cs).toList.take (o + cs.length) = cur.toList.take o ++ cs := by
  unfold over
  rw [List.toList_toArray, List.take_append_of_le_length (by simp; omega)]
  exact List.take_of_length_le (by simp; omega)
theorem over_before {cur : Array Value} {o m : Nat} {cs : List Value} (h : o + cs.length ≤ cur.size) (hm : m ≤ o) : (over cur o cs).toList.take m = cur.toList.take m := by
  unfold over
  rw [List.toList_toArray, List.append_assoc, List.take_append_of_le_length (by simp; omega), List.take_take, Nat.min_eq_left hm]
theorem over_get {cur : Array Value} {o j : Nat} {cs : List Value} (h : o + cs.length ≤ cur.size) : (over cur o cs)[j]? = if j < o then cur[j]? else if j < o + cs.length then cs[j - o]? else cur[j]? := by
  unfold over
  rw [List.getElem?_toArray]
  by_cases h1 : j < o
  · rw [if_pos h1, List.append_assoc, List.getElem?_append_left (by simp; omega), List.getElem?_take_of_lt h1]; simp
  · rw [if_neg h1]
    by_cases h2 : j < o + cs.length
    · rw [if_pos h2, List.append_assoc, List.getElem?_append_right (by simp; omega), List.getElem?_append_left (by simp; omega)]
      congr 1; simp; omega
    · rw [if_neg h2, List.getElem?_append_right (by simp; omega), List.getElem?_drop]
      simp only [List.length_append, List.length_take, Array.length_toList]
      rw [Array.getElem?_toList]
      congr 1; omega

/-- block g of w is the row cur -/
def RowAt (w : World) (g : Nat) (e : TypeId) (cur : Array Value) : Prop := w.heap[g]? = some (.cells cur e (0, 0))
theorem RowAt.cell {w : World} {g : Nat} {e : TypeId} {cur : Array Value} (h : RowAt w g e cur) (j : Nat) : w.cell? ⟨g, j, none⟩ = cur[j]? := cell_of_row w g j cur e (0, 0) h
theorem RowAt.set {w : World} {g : Nat} {e : TypeId} {cur cs : Array Value} (h : RowAt w g e cur) : RowAt (w.setRow g cs) g e cs := setRow_heap w g cur cs e _ h
theorem RowAt.lt {w : World} {g : Nat} {e : TypeId} {cur : Array Value} (h : RowAt w g e cur) : g < w.heap.size := (Array.getElem?_eq_some_iff.1 h).1
theorem RowAt.drew {w : World} {g : Nat} {e : TypeId} {cur : Array Value} (h : RowAt w g e cur) : RowAt w.drew g e cur := h
theorem RowAt.past {w w' : World} {g : Nat} {e : TypeId} {cur : Array Value} (h : RowAt w g e cur) (hb : Below w.heap.size w w') : RowAt w' g e cur := by
  have := hb.block g h.lt
  unfold RowAt at *
  rw [this]; exact h
theorem RowAt.alloc {w : World} {g : Nat} {e : TypeId} {cur : Array Value} (h : RowAt w g e cur) (o : Obj) : RowAt (w.alloc o) g e cur := h.past (below_alloc (Below.refl _ _) o)

theorem OwnI.row {B g cap n : Nat} {e : TypeId} {L : List It} {W0 w : World} (h : OwnI B e (.slice (some ⟨g, 0, none⟩) n cap) L W0 w) :
    ∃ cur, RowAt w g e cur ∧ n = L.length ∧ B ≤ g ∧ L.length ≤ cap ∧ cap ≤ maxLen ∧ cur.size = cap * 3 ∧ cur.toList.take (L.length * 3) = icells L := by
  rcases h.1.2 with ⟨h', _⟩ | ⟨g', cap', cur, h', hB, hg, hcap, hmx, hsz, htk⟩
  · cases h'
  · cases h'
    exact ⟨cur, hg, rfl, hB, hcap, hmx, hsz, htk⟩
theorem OwnI.ofRow {B g cap : Nat} {e : TypeId} {L : List It} {W0 w : World} {cur : Array Value} (hr : RowAt w g e cur) (hB : B ≤ g) (hcap : L.length ≤ cap) (hmx : cap ≤ maxLen) (hsz : cur.size = cap * 3)
    (htk : cur.toList.take (L.length * 3) = icells L) (hb : Below B W0 w) : OwnI B e (.slice (some ⟨g, 0, none⟩) L.length cap) L W0 w :=
  ⟨⟨icells_length L, .inr ⟨g, cap, cur, rfl, hB, hr, hcap, hmx, hsz, htk⟩⟩, hb, Nat.le_trans hB (Nat.le_of_lt hr.lt)⟩

section
variable {P : Program}

/-- append where there is room, as one step of a region that draws: the row stays told whole -/
theorem step_append_row {ops : Array Oper} {o : Oper} {a : Act} {w : World} {K : Act → World → Prop} {Q : Exit → Act → World → Prop} {E : Prop} (hgd : o.guard = none) (s x : Operand) (t : TypeId)
    (hop : o.op = .call { callee := .builtin .append, args := #[s, x], argTypes := #[t, t] })
    (e : TypeId) (i : TypeInfo) (ht : P.underlying t = some (.slice e)) (hi : P.info? e = some i) (hsize : i.size = 3)
    (g sLen sCap : Nat) (cur : Array Value) (hr : RowAt w g e cur) (hs : a.eval s = .slice (some ⟨g, 0, none⟩) sLen sCap)
    (ad : Addr) (m c : Nat) (news : List Value) (hx : a.eval x = .slice (some ad) m c) (hl : news.length = m * 3) (hnews : ∀ j u, news[j]? = some u → w.cell? (ad.add j) = some u) (h1 : ∀ u ∈ news, u.oneCell' = true)
    (hroom : sLen + m ≤ sCap) (hfit : sLen * 3 + news.length ≤ cur.size)
    (hK : K (a.put o.dst (.slice (some ⟨g, 0, none⟩) (sLen + m) sCap)) (w.setRow g (over cur (sLen * 3) news))) :
    if Region.wanted o (yielded ops a.tmps) = true then Oper.wp P o a w K Q else E := by
  have hw : Region.wanted o (yielded ops a.tmps) = true := by simp [Region.wanted, hgd]
  rw [if_pos hw]
  have hrun : (Builtin.append_ #[t, t] o.type #[.slice (some ⟨g, 0, none⟩) sLen sCap, .slice (some ad) m c]).run P w = .ok (.slice (some ⟨g, 0, none⟩) (sLen + m) sCap) (w.setRow g (over cur (sLen * 3) news)) := by
    have h := run_append_room (P := P) w t o.type e i ht hi g sLen sCap cur hr ad m c news (by rw [hsize]; exact hl) hnews h1 hroom (by rw [hsize]; exact hfit)
    rw [hsize] at h
    exact h
  unfold Oper.wp
  simp [execOp, hop, resolve, invoke, builtin, hs, hx, hrun, Result.andThen]
  exact hK

/-- clear of one item -/
theorem run_clear_item (w : World) (t e ty : TypeId) (ht : P.underlying t = some (.slice e)) (z : Value) (hv : ∀ w, (zeroValue e).run P w = .ok z w) (zs : List Value) (hz : (Builtin.zeroCells z.cells 1).toList = zs) (h1 : ∀ u ∈ zs, u.oneCell' = true)
    (g o c : Nat) (cur : Array Value) (hr : RowAt w g e cur) (hfit : o + zs.length ≤ cur.size) :
    (Builtin.clear_ #[t] ty #[.slice (some ⟨g, o, none⟩) 1 c]).run P w = .ok (.tuple #[]) (w.setRow g (over cur o zs)) := by
  have hst := run_storeCells_at P g o e zs 0 cur w hr (by simpa using hfit) h1
  simp only [Nat.add_zero] at hst
  simp [Builtin.clear_, run_underlying ht, hv, hz, hst, over]
end
end Go.Proofs.Ythjaanhkmfiajac

/- copy between rows of items, as a run equation, in a list and as a step of a region that draws; what two writes leave. No condition. -/
namespace Go.Proofs.Ythjaanhkmfiajac
open Go.RowKit

theorem over_two {cur : Array Value} {o : Nat} {xs bs : List Value} (h : o + xs.length + bs.length ≤ cur.size) :
    (over (over cur o xs) (o + xs.length) bs).toList.take (o + xs.length + bs.length) = cur.toList.take o ++ xs ++ bs := by
  have h1 : o + xs.length ≤ cur.size := by omega
  rw [over_take (by rw [over_size h1]; exact h), over_take h1]
theorem over_shift {cur : Array Value} {o : Nat} {xs bs : List Value} (h : o + xs.length + bs.length ≤ cur.size) :
    (over (over cur (o + xs.length) bs) o xs).toList.take (o + xs.length + bs.length) = cur.toList.take o ++ xs ++ bs := by
  have h1 : o + xs.length + bs.length ≤ (over cur (o + xs.length) bs).size := by rw [over_size h]; exact h
  have e1 : (over cur (o + xs.length) bs).toList.take o = cur.toList.take o := over_before h (by omega)
  have e2 : (over cur (o + xs.length) bs).toList.drop (o + xs.length) = bs ++ cur.toList.drop (o + xs.length + bs.length) := by
    unfold over
    rw [List.toList_toArray, List.append_assoc, List.drop_append_of_le_length (by simp; omega), List.drop_of_length_le (by simp; omega), List.nil_append]
  show ((over cur (o + xs.length) bs).toList.take o ++ xs ++ (over cur (o + xs.length) bs).toList.drop (o + xs.length)).take _ = _
  rw [e1, e2, ← List.append_assoc, List.take_append_of_le_length (by simp; omega)]
  exact List.take_of_length_le (by simp; omega)

section
variable {P : Program}

theorem run_copy_items (w : World) (dT sT ty e : TypeId) (i : TypeInfo) (hu : P.underlying dT = some (.slice e)) (hi : P.info? e = some i) (hs : i.size = 3) (g o dLen dCap : Nat) (a : Addr) (sLen sCap : Nat) (cur : Array Value) (hr : RowAt w g e cur)
    (cs : List Value) (q : Nat) (hq : q = Nat.min sLen dLen) (hn : cs.length = q * 3) (hsrc : ∀ j v, cs[j]? = some v → w.cell? (a.add j) = some v) (hfit : o + cs.length ≤ cur.size) (h1 : ∀ v ∈ cs, v.oneCell' = true) :
    (Builtin.copy_ #[dT, sT] ty #[.slice (some ⟨g, o, none⟩) dLen dCap, .slice (some a) sLen sCap]).run P w = .ok (goInt q) (w.setRow g (over cur o cs)) := by
  subst hq
  have hl := run_loadCells_list (P := P) w a cs hsrc
  rw [hn] at hl
  have hst := run_storeCells_at P g o e cs 0 cur w hr (by simpa using hfit) h1
  simp only [Nat.add_zero] at hst
  simp [Builtin.copy_, run_underlying hu, Builtin.lenOf, Builtin.firstCells, sizeOf, typeInfo, hi, hs, hl, hst, over]

theorem wpList_copy_eq (w : World) {ops : Array Oper} {rest : List Oper} {o : Oper} {a : Act} {Q : Exit → Act → World → Prop} (hgd : o.guard = none) (d s : Operand) (dT sT : TypeId)
    (ho : o.op = .call { callee := .builtin .copy, args := #[d, s], argTypes := #[dT, sT] }) (v u : Value) (hd : a.eval d = v) (hs : a.eval s = u) {r : Value} {w' : World}
    (hr : (Builtin.copy_ #[dT, sT] o.type #[v, u]).run P w = .ok r w') (h : wpList P ops Q rest (a.put o.dst r) w') : wpList P ops Q (o :: rest) a w := by
  refine wpList_plain hgd fun K hK => ?_
  unfold Oper.wp
  simp [execOp, ho, resolve, invoke, builtin, hd, hs, hr, Result.andThen]
  exact hK _ _ h

theorem step_copy_eq {ops : Array Oper} {o : Oper} {a : Act} {w : World} {K : Act → World → Prop} {Q : Exit → Act → World → Prop} {E : Prop} (hgd : o.guard = none) (d s : Operand) (dT sT : TypeId)
    (ho : o.op = .call { callee := .builtin .copy, args := #[d, s], argTypes := #[dT, sT] }) (v u : Value) (hd : a.eval d = v) (hs : a.eval s = u) {r : Value} {w' : World}
    (hr : (Builtin.copy_ #[dT, sT] o.type #[v, u]).run P w = .ok r w') (hK : K (a.put o.dst r) w') : if Region.wanted o (yielded ops a.tmps) = true then Oper.wp P o a w K Q else E := by
  have hw : Region.wanted o (yielded ops a.tmps) = true := by simp [Region.wanted, hgd]
  rw [if_pos hw]
  unfold Oper.wp
  simp [execOp, ho, resolve, invoke, builtin, hd, hs, hr, Result.andThen]
  exact hK
end
end Go.Proofs.Ythjaanhkmfiajac

/- A row of strings that a call owns, told by a list of strings: append of one; a cell's store. No condition. -/
namespace Go.Proofs.Ythjaanhkmfiajac
open Go.RowKit

/-- the slice value v holds the strings Z -/
def StrsAt (w : World) (v : Value) (Z : List ByteArray) : Prop :=
  ∃ (p : Option Addr) (cap : Nat), v = .slice p Z.length cap ∧ Z.length ≤ 140737488355328 ∧ (p = none → cap = 0) ∧
    ∀ (i : Nat) (z : ByteArray), Z[i]? = some z → ∃ b off, p = some ⟨b, off, none⟩ ∧ b < w.heap.size ∧ w.cell? ⟨b, off + i, none⟩ = some (.string z)
theorem StrsAt.keep {w w' : World} {v : Value} {Z : List ByteArray} (h : StrsAt w v Z) (hb : Below w.heap.size w w') : StrsAt w' v Z := by
  obtain ⟨p, cap, hv, hl, hn, hc⟩ := h
  refine ⟨p, cap, hv, hl, hn, fun i x hx => ?_⟩
  obtain ⟨b, off, hp, hlt, h0⟩ := hc i x hx
  exact ⟨b, off, hp, Nat.lt_of_lt_of_le hlt hb.size, (hb.cell (p := ⟨b, _, none⟩) hlt).trans h0⟩

def scells (Z : List ByteArray) : List Value := Z.map .string
theorem scells_one (Z : List ByteArray) : ∀ u ∈ scells Z, u.oneCell' = true := by
  intro u h
  obtain ⟨z, _, rfl⟩ := List.mem_map.1 h
  rfl

/-- v is the call's own row of the strings Z -/
def OwnS (B : Nat) (e : TypeId) (v : Value) (Z : List ByteArray) (W0 w : World) : Prop := w.ownsRow B e 1 v Z.length (scells Z) ∧ Below B W0 w ∧ B ≤ w.heap.size

theorem OwnS.nil {B : Nat} {e : TypeId} {W0 w : World} (hb : Below B W0 w) (h : B ≤ w.heap.size) : OwnS B e (.slice none 0 0) [] W0 w := ⟨World.ownsRow_nil _ _ _ _, hb, h⟩
theorem OwnS.below {B : Nat} {e : TypeId} {v : Value} {L : List ByteArray} {W0 w : World} (h : OwnS B e v L W0 w) : Below B W0 w := h.2.1
theorem OwnS.alloc {B : Nat} {e : TypeId} {v : Value} {L : List ByteArray} {W0 w : World} (h : OwnS B e v L W0 w) (o : Obj) : OwnS B e v L W0 (w.alloc o) := ⟨h.1.alloc o, h.2.1.alloc h.2.2 o, Nat.le_trans h.2.2 (by simp)⟩
theorem OwnS.cast {B : Nat} {e : TypeId} {v : Value} {l l' : List ByteArray} {W0 w : World} (h : OwnS B e v l W0 w) (hl : l = l') : OwnS B e v l' W0 w := hl ▸ h
theorem OwnS.grown {B : Nat} {e : TypeId} {v v' : Value} {L L' : List ByteArray} {W0 w w' : World} (h : OwnS B e v L W0 w) (ho : w'.ownsRow B e 1 v' L'.length (scells L')) (hg : w.grownBy w' v.ownBlock) : OwnS B e v' L' W0 w' :=
  ⟨ho, h.2.1.grown hg h.2.2 (fun k hk => (h.1.lt k hk).1), Nat.le_trans h.2.2 hg.size⟩
theorem OwnS.past {B : Nat} {e : TypeId} {v : Value} {l : List ByteArray} {W0 w w' : World} (h : OwnS B e v l W0 w) (hb : Below w.heap.size w w') : OwnS B e v l W0 w' := by
  obtain ⟨h1, h2, h3⟩ := h
  refine ⟨⟨h1.1, ?_⟩, h2.trans (hb.mono h3), Nat.le_trans h3 hb.size⟩
  rcases h1.2 with hn | ⟨g, cap, cur, hv, hB, hg, rest⟩
  · exact .inl hn
  · exact .inr ⟨g, cap, cur, hv, hB, by rw [hb.block g (Array.getElem?_eq_some_iff.1 hg).1]; exact hg, rest⟩
theorem OwnS.drewN {B : Nat} {e : TypeId} {v : Value} {l : List ByteArray} {W0 w : World} (h : OwnS B e v l W0 w) (n : Nat) : OwnS B e v l W0 (w.drewN n) := ⟨h.1, below_dr h.2.1 n, h.2.2⟩
theorem OwnS.drew {B : Nat} {e : TypeId} {v : Value} {l : List ByteArray} {W0 w : World} (h : OwnS B e v l W0 w) : OwnS B e v l W0 w.drew := ⟨h.1, h.2.1.drew, h.2.2⟩
theorem OwnS.lower {B B' : Nat} {e : TypeId} {v : Value} {L : List ByteArray} {W0 W1 w : World} (h : OwnS B' e v L W1 w) (hB : B ≤ B') (hb : Below B W0 W1) : OwnS B e v L W0 w := by
  obtain ⟨h1, h2, h3⟩ := h
  refine ⟨⟨h1.1, ?_⟩, hb.trans (h2.mono hB), Nat.le_trans hB h3⟩
  rcases h1.2 with hn | ⟨g, cap, cur, hv, hg, rest⟩
  · exact .inl hn
  · exact .inr ⟨g, cap, cur, hv, Nat.le_trans hB hg, rest⟩
theorem OwnS.shape {B : Nat} {e : TypeId} {v : Value} {L : List ByteArray} {W0 w : World} (h : OwnS B e v L W0 w) (hne : 0 < L.length) : ∃ g cap, v = .slice (some ⟨g, 0, none⟩) L.length cap ∧ B ≤ g ∧ g < w.heap.size ∧ L.length ≤ cap := by
  rcases h.1.2 with ⟨_, hn⟩ | ⟨g, cap, cur, rfl, hB, hg, hcap, _⟩
  · omega
  · exact ⟨g, cap, rfl, hB, (Array.getElem?_eq_some_iff.1 hg).1, hcap⟩
theorem OwnS.cell {B g cap n : Nat} {e : TypeId} {L : List ByteArray} {W0 w : World} (h : OwnS B e (.slice (some ⟨g, 0, none⟩) n cap) L W0 w) {k : Nat} {z : ByteArray} (hx : L[k]? = some z) :
    w.cell? ⟨g, k, none⟩ = some (.string z) ∧ (∀ j, w.frozen? ⟨g, j, none⟩ = false) ∧ n = L.length := by
  have hk := (List.getElem?_eq_some_iff.1 hx).1
  have hnL : n = L.length := by
    rcases h.1.2 with ⟨h', _⟩ | ⟨g', cap', cur, h', _⟩
    · cases h'
    · cases h'; rfl
  subst hnL
  refine ⟨(h.1.cellAt k (by omega)).trans ?_, h.1.frozenAt, rfl⟩
  unfold scells
  rw [List.getElem?_map, hx]
  rfl
/-- read as any slice of strings -/
theorem OwnS.ints {B : Nat} {e : TypeId} {v : Value} {L : List ByteArray} {W0 w : World} (h : OwnS B e v L W0 w) (hl : L.length ≤ 140737488355328) : StrsAt w v L := by
  have h' := h
  obtain ⟨h1, _, _⟩ := h'
  rcases h1.2 with ⟨rfl, hn⟩ | ⟨g, cap, cur, rfl, hB, hg, hcap, _, _, htk⟩
  · have : L = [] := List.eq_nil_of_length_eq_zero hn
    subst this
    exact ⟨none, 0, rfl, hl, fun _ => rfl, fun i x hx => by simp at hx⟩
  · refine ⟨some ⟨g, 0, none⟩, cap, rfl, hl, (fun h => by cases h), fun i x hx => ⟨g, 0, rfl, (Array.getElem?_eq_some_iff.1 hg).1, ?_⟩⟩
    rw [Nat.zero_add]
    exact (h.cell hx).1
/-- 'out[k] = z' -/
theorem OwnS.set {B g cap n : Nat} {e : TypeId} {L : List ByteArray} {W0 w : World} (h : OwnS B e (.slice (some ⟨g, 0, none⟩) n cap) L W0 w) {k : Nat} (hk : k < L.length) (z : ByteArray) :
    OwnS B e (.slice (some ⟨g, 0, none⟩) n cap) (L.set k z) W0 (w.setCell ⟨g, k, none⟩ (.string z)) := by
  obtain ⟨_, _, rfl⟩ := h.cell (List.getElem?_eq_getElem hk)
  obtain ⟨h1, h2⟩ := h.1.stored k (.string z)
  have e1 : (scells L).set k (.string z) = scells (L.set k z) := by unfold scells; rw [List.map_set]
  rw [e1] at h1
  have hg : B ≤ g := (h.1.lt g rfl).1
  refine ⟨by rw [List.length_set]; exact h1, h.2.1.setCell (p := ⟨g, _, none⟩) hg _, Nat.le_trans h.2.2 h2.size⟩

theorem grown_twice {w w1 w2 : World} {row : Option Nat} (h1 : w.grownBy w1 row) (h2 : w1.grownBy w2 row) : w.grownBy w2 row :=
  ⟨h2.os.trans h1.os, h2.tape.trans h1.tape, h2.output.trans h1.output, Nat.le_trans h1.size h2.size, fun k hk hne => (h2.block k (Nat.lt_of_lt_of_le hk h1.size) hne).trans (h1.block k hk hne)⟩

section
variable {P : Program}
theorem wpList_own_str {ops : Array Oper} {rest : List Oper} {o : Oper} {a : Act} {Q : Exit → Act → World → Prop} (hgd : o.guard = none) (s x : Operand) (t : TypeId)
    (ho : o.op = .call { callee := .builtin .append, args := #[s, x], argTypes := #[t, t] })
    (B : Nat) (e : TypeId) (i : TypeInfo) (z : Value) (ht : P.underlying t = some (.slice e)) (hi : P.info? e = some i) (hz : i.zero = some z) (hzs : z.cells.size = 1) (hsize : i.size = 1) (hby : i.bytes = 16)
    (v : Value) (L : List ByteArray) (hs : a.eval s = v) (W0 w0 : World) (y : ByteArray) (hb : OwnS B e v L W0 w0)
    (g : Nat) (hx : a.eval x = .slice (some ⟨g, 0, none⟩) 1 1) (hgw : g = w0.heap.size) (hlen : (L.length + 1) * 16 ≤ 140737488355328)
    (h : ∀ v' w', OwnS B e v' (L ++ [y]) W0 w' → w0.grownBy w' v.ownBlock → wpList P ops Q rest (a.put o.dst v') w') : wpList P ops Q (o :: rest) a (w0.alloc (.cells #[.string y] e)) := by
  subst hgw
  have hb' := hb.alloc (.cells #[.string y] e)
  refine wpList_append_own _ hgd s x t ho B e i z 1 16 ht hi hz hsize hby hzs (by decide) v L.length (scells L) hs hb'.1 ⟨w0.heap.size, 0, none⟩ 1 1 (scells [y]) hx rfl ?_ (scells_one _) (by unfold maxLen; omega) hlen hb'.2.2 ?_
  · intro j u hj
    match j, hj with
    | 0, hj => simp [scells] at hj; subst hj; simp [Addr.add]
    | j + 1, hj => simp [scells] at hj
  · intro v' w' ho' hg _
    exact h v' w' (hb'.grown (by rw [scells, List.map_append, List.length_append]; exact ho') hg) (grown_twice (World.grownBy_alloc w0 _ _) hg)
end
end Go.Proofs.Ythjaanhkmfiajac

/- Plain mathematics of run-length encoding over lists of bytes: the encoder of the code and the one of the document give the same list; decoding. No condition. -/
namespace Go.Proofs.Ythjaanhkmfiajac
namespace PM

/-- how many bytes at the head are c -/
def lead (c : UInt8) : List UInt8 → Nat
  | [] => 0
  | d :: l => if d = c then lead c l + 1 else 0

/-- the run at the head -/
def rl (l : List UInt8) : Nat := lead (l.headD 0) l

theorem lead_le (c : UInt8) : ∀ l : List UInt8, lead c l ≤ l.length
  | [] => Nat.le_refl _
  | d :: l => by unfold lead; split <;> simp <;> have := lead_le c l <;> omega

theorem rl_le (l : List UInt8) : rl l ≤ l.length := lead_le _ _
theorem rl_pos (c : UInt8) (l : List UInt8) : 1 ≤ rl (c :: l) := by simp [rl, lead]

/-- the prefix is c, and what stands behind it is not -/
theorem lead_at (c : UInt8) : ∀ (l : List UInt8) (n : Nat), n ≤ l.length → (∀ k, k < n → l[k]? = some c) → (n < l.length → l[n]? ≠ some c) → lead c l = n
  | [], n, h, _, _ => by simp at h; simp [lead, h]
  | d :: l, 0, _, _, h2 => by
    have : d ≠ c := by simpa using h2 (by simp)
    simp [lead, this]
  | d :: l, n + 1, h, h1, h2 => by
    have hd : d = c := by simpa using h1 0 (by omega)
    simp only [lead, hd, if_pos]
    congr 1
    exact lead_at c l n (by simpa using h) (fun k hk => by simpa using h1 (k + 1) (by omega)) (fun hn => by simpa using h2 (by simpa using hn))

theorem lead_get (c : UInt8) : ∀ (l : List UInt8) (k : Nat), k < lead c l → l[k]? = some c
  | [], k, h => by simp [lead] at h
  | d :: l, k, h => by
    unfold lead at h
    split at h
    · match k with
      | 0 => simpa
      | k + 1 => simpa using lead_get c l k (by omega)
    · omega

theorem lead_take (c : UInt8) : ∀ (l : List UInt8), l.take (lead c l) = List.replicate (lead c l) c
  | [] => by simp [lead]
  | d :: l => by
    unfold lead
    split
    · rename_i h; subst h; simp [List.replicate_succ, lead_take d l]
    · simp

/-- how many bytes stand before the next run -/
def lit : List UInt8 → Nat
  | [] => 0
  | c :: l => if rl (c :: l) < 3 then lit l + 1 else 0

theorem lit_le : ∀ l : List UInt8, lit l ≤ l.length
  | [] => Nat.le_refl _
  | c :: l => by unfold lit; split <;> simp <;> have := lit_le l <;> omega

theorem lit_at : ∀ (l : List UInt8) (n : Nat), n ≤ l.length → (∀ k, k < n → rl (l.drop k) < 3) → (n < l.length → ¬ rl (l.drop n) < 3) → lit l = n
  | [], n, h, _, _ => by simp at h; simp [lit, h]
  | d :: l, 0, _, _, h2 => by
    have := h2 (by simp)
    simp only [List.drop_zero] at this
    simp [lit, this]
  | d :: l, n + 1, h, h1, h2 => by
    have hd := h1 0 (by omega)
    simp only [List.drop_zero] at hd
    simp only [lit, hd, if_pos]
    congr 1
    exact lit_at l n (by simpa using h) (fun k hk => by simpa using h1 (k + 1) (by omega)) (fun hn => by simpa using h2 (by simpa using hn))

theorem lit_lt : ∀ (l : List UInt8) (k : Nat), k < lit l → rl (l.drop k) < 3
  | [], k, h => by simp [lit] at h
  | d :: l, k, h => by
    unfold lit at h
    split at h
    · match k with
      | 0 => simpa
      | k + 1 => simpa using lit_lt l k (by omega)
    · omega

/-- the encoder as the code has it -/
def enc (l : List UInt8) : List UInt8 :=
  if _h : l = [] then []
  else if 3 ≤ rl l then UInt8.ofNat (125 + rl l) :: l.headD 0 :: enc (l.drop (rl l))
  else UInt8.ofNat (lit l.tail) :: (l.take (lit l.tail + 1) ++ enc (l.drop (lit l.tail + 1)))
termination_by l.length
decreasing_by
  all_goals simp_wf
  all_goals (have : 0 < l.length := List.length_pos_iff.2 (by assumption)); omega

theorem enc_nil : enc [] = [] := by rw [enc]; simp
theorem enc_run {l : List UInt8} (h : 3 ≤ rl l) : enc l = UInt8.ofNat (125 + rl l) :: l.headD 0 :: enc (l.drop (rl l)) := by
  have hne : l ≠ [] := by intro e; subst e; simp [rl, lead] at h
  rw [enc, dif_neg hne, if_pos h]
theorem enc_lit {l : List UInt8} (hne : l ≠ []) (h : ¬ 3 ≤ rl l) : enc l = UInt8.ofNat (lit l.tail) :: (l.take (lit l.tail + 1) ++ enc (l.drop (lit l.tail + 1))) := by
  rw [enc, dif_neg hne, if_neg h]

theorem enc_len2 : ∀ (n : Nat) (l : List UInt8), l.length = n → (enc l).length ≤ 2 * l.length := by
  intro n
  induction n using Nat.strongRecOn with
  | ind n ih =>
    intro l hl
    by_cases hne : l = []
    · subst hne; simp [enc_nil]
    · have hpos : 0 < l.length := List.length_pos_iff.2 hne
      by_cases h : 3 ≤ rl l
      · have := rl_le l
        have := ih (l.drop (rl l)).length (by simp; omega) _ rfl
        rw [enc_run h]; simp at this ⊢; omega
      · have := lit_le l.tail
        have := ih (l.drop (lit l.tail + 1)).length (by simp; omega) _ rfl
        rw [enc_lit hne h]; simp at this ⊢; omega

/-- what the document's loop writes before it goes on -/
def flush (p : List UInt8) : List UInt8 := if p = [] then [] else UInt8.ofNat (p.length - 1) :: p
theorem flush_nil : flush [] = [] := rfl
theorem flush_ne {p : List UInt8} (h : p ≠ []) : flush p = UInt8.ofNat (p.length - 1) :: p := by simp [flush, h]

/-- the encoder as the document's loop has it: p: the bytes that are held back -/
def refGo (p l : List UInt8) : List UInt8 :=
  if _h : l = [] then flush p
  else if 3 ≤ rl l then flush p ++ (UInt8.ofNat (125 + rl l) :: l.headD 0 :: refGo [] (l.drop (rl l)))
  else refGo (p ++ [l.headD 0]) l.tail
termination_by l.length
decreasing_by
  all_goals simp_wf
  all_goals (have : 0 < l.length := List.length_pos_iff.2 (by assumption)); omega

theorem refGo_nil (p : List UInt8) : refGo p [] = flush p := by rw [refGo]; simp
theorem refGo_run {p l : List UInt8} (h : 3 ≤ rl l) : refGo p l = flush p ++ (UInt8.ofNat (125 + rl l) :: l.headD 0 :: refGo [] (l.drop (rl l))) := by
  have hne : l ≠ [] := by intro e; subst e; simp [rl, lead] at h
  rw [refGo, dif_neg hne, if_pos h]
theorem refGo_one {p l : List UInt8} (hne : l ≠ []) (h : ¬ 3 ≤ rl l) : refGo p l = refGo (p ++ [l.headD 0]) l.tail := by
  rw [refGo, dif_neg hne, if_neg h]

theorem refGo_both : ∀ (n : Nat) (l : List UInt8), l.length = n → refGo [] l = enc l ∧ ∀ p, p ≠ [] → refGo p l = UInt8.ofNat (p.length + lit l - 1) :: (p ++ l.take (lit l)) ++ enc (l.drop (lit l)) := by
  intro n
  induction n using Nat.strongRecOn with
  | ind n ih =>
    intro l hl
    match l, hl with
    | [], _ => exact ⟨by rw [refGo_nil, enc_nil]; rfl, fun p hp => by rw [refGo_nil, flush_ne hp]; simp [lit, enc_nil]⟩
    | c :: t, hl =>
      by_cases h : 3 ≤ rl (c :: t)
      · have hd := (ih ((c :: t).drop (rl (c :: t))).length (by rw [← hl]; simp; omega) _ rfl).1
        refine ⟨by rw [refGo_run h, enc_run h, hd, flush_nil]; rfl, fun p hp => ?_⟩
        have h0 : lit (c :: t) = 0 := by simp only [lit]; rw [if_neg (by omega)]
        rw [refGo_run h, h0, hd, flush_ne hp]
        simp only [List.take_zero, List.drop_zero, List.append_nil, Nat.add_zero, enc_run h]
      · have ht := (ih t.length (by rw [← hl]; simp) t rfl).2
        have h1 : lit (c :: t) = lit t + 1 := by simp only [lit]; rw [if_pos (by omega)]
        refine ⟨?_, fun p hp => ?_⟩
        · rw [refGo_one (by simp) h, enc_lit (by simp) h]
          simp only [List.nil_append, List.headD_cons, List.tail_cons]
          rw [ht [c] (by simp)]
          simp only [List.length_singleton, List.take_succ_cons, List.drop_succ_cons, List.cons_append, List.nil_append]
          rw [show 1 + lit t - 1 = lit t by omega]
        · rw [refGo_one (by simp) h]
          simp only [List.headD_cons, List.tail_cons]
          rw [ht (p ++ [c]) (by simp), h1]
          simp only [List.length_append, List.length_singleton, List.take_succ_cons, List.drop_succ_cons, List.append_assoc, List.singleton_append]
          rw [show p.length + 1 + lit t - 1 = p.length + (lit t + 1) - 1 by omega]

theorem refGo_enc (l : List UInt8) : refGo [] l = enc l := (refGo_both _ l rfl).1

/-- what a decoder gives: the bytes, or the number of the error -/
inductive Res | ok (l : List UInt8) | err (n : Nat)

/-- the element's own bytes behind its first: n -/
def elen (c : UInt8) : Nat := if c.toNat < 128 then c.toNat + 1 else 1
/-- what it stands for -/
def ebytes (c : UInt8) (t : List UInt8) : List UInt8 := if c.toNat < 128 then t.take (c.toNat + 1) else List.replicate (c.toNat - 125) (t.headD 0)
def ecount (c : UInt8) : Nat := if c.toNat < 128 then c.toNat + 1 else c.toNat - 125

theorem elen_pos (c : UInt8) : 1 ≤ elen c := by unfold elen; split <;> omega
theorem elen_le (c : UInt8) : elen c ≤ 128 := by unfold elen; split <;> omega
theorem ecount_le (c : UInt8) : ecount c ≤ 130 := by unfold ecount; split <;> have := c.toNat_lt <;> omega
theorem ecount_pos (c : UInt8) : 1 ≤ ecount c := by unfold ecount; split <;> omega
theorem ebytes_length (c : UInt8) (t : List UInt8) (h : elen c ≤ t.length) : (ebytes c t).length = ecount c := by
  unfold ebytes ecount
  unfold elen at h
  split
  · rename_i hc; rw [if_pos hc] at h; simp; omega
  · simp

def dec (out : List UInt8) : List UInt8 → Res
  | [] => .ok out
  | c :: t => if t.length < elen c then .err 5 else if 48 < out.length + ecount c then .err 1 else dec (out ++ ebytes c t) (t.drop (elen c))
termination_by l => l.length
decreasing_by simp_wf; omega

theorem dec_nil (out : List UInt8) : dec out [] = .ok out := by rw [dec]
theorem dec_short {out : List UInt8} {c : UInt8} {t : List UInt8} (h : t.length < elen c) : dec out (c :: t) = .err 5 := by rw [dec, if_pos h]
theorem dec_long {out : List UInt8} {c : UInt8} {t : List UInt8} (h : ¬ t.length < elen c) (h2 : 48 < out.length + ecount c) : dec out (c :: t) = .err 1 := by rw [dec, if_neg h, if_pos h2]
theorem dec_go {out : List UInt8} {c : UInt8} {t : List UInt8} (h : ¬ t.length < elen c) (h2 : ¬ 48 < out.length + ecount c) : dec out (c :: t) = dec (out ++ ebytes c t) (t.drop (elen c)) := by rw [dec, if_neg h, if_neg h2]

theorem dec_ok_le : ∀ (n : Nat) (l out r : List UInt8), l.length = n → out.length ≤ 48 → dec out l = .ok r → r.length ≤ 48 := by
  intro n
  induction n using Nat.strongRecOn with
  | ind n ih =>
    intro l out r hl ho h
    match l, hl with
    | [], _ => rw [dec_nil] at h; cases h; exact ho
    | c :: t, hl =>
      by_cases h1 : t.length < elen c
      · rw [dec_short h1] at h; cases h
      · by_cases h2 : 48 < out.length + ecount c
        · rw [dec_long h1 h2] at h; cases h
        · rw [dec_go h1 h2] at h
          refine ih (t.drop (elen c)).length (by rw [← hl]; simp; omega) _ _ _ rfl ?_ h
          rw [List.length_append, ebytes_length c t (by omega)]; omega

end PM
end Go.Proofs.Ythjaanhkmfiajac

/- Plain mathematics of run-length encoding, further: decoding what was encoded gives it back; an encoding is at most one byte longer; a run's encoding. Condition of dec_enc: together at most 48 bytes. -/
namespace Go.Proofs.Ythjaanhkmfiajac
namespace PM

theorem lit_end : ∀ l : List UInt8, lit l < l.length → 3 ≤ rl (l.drop (lit l))
  | [], h => by simp at h
  | c :: l, h => by
    unfold lit at h ⊢
    by_cases h3 : rl (c :: l) < 3
    · rw [if_pos h3] at h ⊢
      simp only [List.drop_succ_cons]
      exact lit_end l (by simpa using h)
    · rw [if_neg h3]
      simp only [List.drop_zero]
      omega

theorem enc_len1 : ∀ (n : Nat) (l : List UInt8), l.length = n → (enc l).length ≤ l.length + 1 ∧ (l = [] ∨ 3 ≤ rl l → (enc l).length ≤ l.length) := by
  intro n
  induction n using Nat.strongRecOn with
  | ind n ih =>
    intro l hl
    by_cases hne : l = []
    · subst hne; simp [enc_nil]
    · have hpos : 0 < l.length := List.length_pos_iff.2 hne
      by_cases h : 3 ≤ rl l
      · have h1 := rl_le l
        have h2 := (ih (l.drop (rl l)).length (by simp; omega) _ rfl).1
        have h3 : (enc l).length ≤ l.length := by rw [enc_run h]; simp at h2 ⊢; omega
        exact ⟨by omega, fun _ => h3⟩
      · have h1 := lit_le l.tail
        have h2 := (ih (l.drop (lit l.tail + 1)).length (by simp; omega) _ rfl).2
        have h3 : l.drop (lit l.tail + 1) = [] ∨ 3 ≤ rl (l.drop (lit l.tail + 1)) := by
          by_cases hh : lit l.tail < l.tail.length
          · right
            have := lit_end l.tail hh
            rw [← List.drop_one, List.drop_drop] at this
            rw [Nat.add_comm]
            rw [← List.drop_one] 
            exact this
          · left
            exact List.drop_eq_nil_of_le (by simp at hh; omega)
        have h4 := h2 h3
        refine ⟨?_, fun hc => absurd hc (by intro hc; rcases hc with hc | hc; exact hne hc; exact h hc)⟩
        rw [enc_lit hne h]
        simp at h4 h1 ⊢
        omega

theorem head_take (l : List UInt8) : l.take (rl l) = List.replicate (rl l) (l.headD 0) := lead_take _ _

theorem dec_enc : ∀ (n : Nat) (l out : List UInt8), l.length = n → out.length + l.length ≤ 48 → dec out (enc l) = .ok (out ++ l) := by
  intro n
  induction n using Nat.strongRecOn with
  | ind n ih =>
    intro l out hl hb
    by_cases hne : l = []
    · subst hne; rw [enc_nil, dec_nil]; simp
    · have hpos : 0 < l.length := List.length_pos_iff.2 hne
      by_cases h : 3 ≤ rl l
      · have h1 := rl_le l
        have hc : (UInt8.ofNat (125 + rl l)).toNat = 125 + rl l := by simp; omega
        have he : elen (UInt8.ofNat (125 + rl l)) = 1 := by unfold elen; rw [hc, if_neg (by omega)]
        have hk : ecount (UInt8.ofNat (125 + rl l)) = rl l := by unfold ecount; rw [hc, if_neg (by omega)]; omega
        have hy : ∀ t, ebytes (UInt8.ofNat (125 + rl l)) (l.headD 0 :: t) = l.take (rl l) := by
          intro t; unfold ebytes; rw [hc, if_neg (by omega), head_take]; simp
        rw [enc_run h, dec_go (by rw [he]; simp) (by rw [hk]; omega), hy, he]
        simp only [List.drop_succ_cons, List.drop_zero]
        rw [ih (l.drop (rl l)).length (by simp; omega) _ _ rfl (by simp; omega)]
        rw [List.append_assoc, List.take_append_drop]
      · have h1 := lit_le l.tail
        rw [List.length_tail] at h1
        have hc : (UInt8.ofNat (lit l.tail)).toNat = lit l.tail := by simp; omega
        have he : elen (UInt8.ofNat (lit l.tail)) = lit l.tail + 1 := by unfold elen; rw [hc, if_pos (by omega)]
        have hk : ecount (UInt8.ofNat (lit l.tail)) = lit l.tail + 1 := by unfold ecount; rw [hc, if_pos (by omega)]
        have hlt : (l.take (lit l.tail + 1)).length = lit l.tail + 1 := by simp; omega
        have hy : ∀ t, ebytes (UInt8.ofNat (lit l.tail)) (l.take (lit l.tail + 1) ++ t) = l.take (lit l.tail + 1) := by
          intro t; unfold ebytes; rw [hc, if_pos (by omega), List.take_append_of_le_length (by omega), List.take_of_length_le (by omega)]
        have hz : ∀ t, (l.take (lit l.tail + 1) ++ t).drop (lit l.tail + 1) = t := by
          intro t; rw [List.drop_append_of_le_length (by omega), List.drop_eq_nil_of_le (by omega)]; rfl
        rw [enc_lit hne h, dec_go (by rw [he, List.length_append]; omega) (by rw [hk]; omega), hy, he, hz]
        rw [ih (l.drop (lit l.tail + 1)).length (by simp; omega) _ _ rfl (by simp; omega)]
        rw [List.append_assoc, List.take_append_drop]

theorem rl_rep (c : UInt8) (k : Nat) (h : 0 < k) : rl (List.replicate k c) = k := by
  have hd : (List.replicate k c).headD 0 = c := by
    match k, h with
    | k + 1, _ => rfl
  unfold rl
  rw [hd]
  refine lead_at c _ k (by simp) (fun j hj => by simp [hj]) (fun hj => by simp at hj)

theorem enc_rep (c : UInt8) (k : Nat) (h : 3 ≤ k) : enc (List.replicate k c) = [UInt8.ofNat (125 + k), c] := by
  have hd : (List.replicate k c).headD 0 = c := by
    match k, h with
    | k + 1, _ => rfl
  rw [enc_run (by rw [rl_rep c k (by omega)]; exact h), rl_rep c k (by omega), hd, List.drop_eq_nil_of_le (by simp), enc_nil]

end PM
end Go.Proofs.Ythjaanhkmfiajac

/- Records of transactions, as lists of bytes: what is recorded is scanned again, a cut or a spoilt record is none. Conditions: the writes are good for at most 32 blocks. No program's run. -/
namespace Go.Proofs.Ythjaanhkmfiajac
open PM
namespace LM

/-- the checksum's two numbers -/
def sums : Nat × Nat → List UInt8 → Nat × Nat
  | p, [] => p
  | p, b :: t => sums ((p.1 + b.toNat) % 65521, ((p.1 + b.toNat) % 65521 + p.2) % 65521) t
def tot : List UInt8 → Nat
  | [] => 0
  | b :: t => b.toNat + tot t
theorem sums_fst : ∀ (L : List UInt8) (p : Nat × Nat), p.1 < 65521 → (sums p L).1 = (p.1 + tot L) % 65521
  | [], p, h => by simp [sums, tot, Nat.mod_eq_of_lt h]
  | b :: t, p, h => by
    unfold sums tot
    rw [sums_fst t _ (Nat.mod_lt _ (by omega))]
    simp only
    omega
theorem sums_lt : ∀ (L : List UInt8) (p : Nat × Nat), p.1 < 65521 → p.2 < 65521 → (sums p L).1 < 65521 ∧ (sums p L).2 < 65521
  | [], p, h, h2 => ⟨h, h2⟩
  | b :: t, p, _, _ => by
    unfold sums
    exact sums_lt t _ (Nat.mod_lt _ (by omega)) (Nat.mod_lt _ (by omega))
theorem tot_append : ∀ (A C : List UInt8), tot (A ++ C) = tot A + tot C
  | [], C => by simp [tot]
  | b :: A, C => by simp [tot, tot_append A C, Nat.add_assoc]
def sealL (L : List UInt8) : List UInt8 :=
  [UInt8.ofNat ((sums (1, 0) L).2 / 256), UInt8.ofNat ((sums (1, 0) L).2 % 256), UInt8.ofNat ((sums (1, 0) L).1 / 256), UInt8.ofNat ((sums (1, 0) L).1 % 256)]
theorem sealL_length (L : List UInt8) : (sealL L).length = 4 := rfl
theorem ofNat_inj {a b : Nat} (ha : a < 256) (hb : b < 256) (h : UInt8.ofNat a = UInt8.ofNat b) : a = b := by
  have := congrArg UInt8.toNat h
  rw [UInt8.toNat_ofNat', UInt8.toNat_ofNat'] at this
  omega
theorem toNat_of {a : Nat} (ha : a < 256) : (UInt8.ofNat a).toNat = a := by
  rw [UInt8.toNat_ofNat']
  omega
/-- one byte turned: another checksum -/
theorem sealL_turned {A C : List UInt8} {b b' : UInt8} (h : sealL (A ++ b :: C) = sealL (A ++ b' :: C)) : b = b' := by
  unfold sealL at h
  simp only [List.cons.injEq, and_true] at h
  obtain ⟨_, _, h1, h2⟩ := h
  have l1 := (sums_lt (A ++ b :: C) (1, 0) (by simp) (by simp)).1
  have l2 := (sums_lt (A ++ b' :: C) (1, 0) (by simp) (by simp)).1
  have e1 := ofNat_inj (by omega) (by omega) h1
  have e2 := ofNat_inj (by omega) (by omega) h2
  have e : (sums (1, 0) (A ++ b :: C)).1 = (sums (1, 0) (A ++ b' :: C)).1 := by omega
  rw [sums_fst _ _ (by simp), sums_fst _ _ (by simp), tot_append, tot_append] at e
  simp only [tot] at e
  have := b.toNat_lt
  have := b'.toNat_lt
  exact UInt8.toNat_inj.1 (by omega)

/-- P1.2 on lists -/
def unp (s : List UInt8) : Option (List UInt8) :=
  match dec [] s with
  | .ok d => if enc d = s then some d else none
  | .err _ => none
theorem unp_enc {d : List UInt8} (h : d.length ≤ 48) : unp (enc d) = some d := by
  unfold unp
  rw [dec_enc _ d [] rfl (by simpa using h)]
  simp

def wbytes (x : Wr) : List UInt8 := UInt8.ofNat x.block.toNat :: UInt8.ofNat (enc x.data.data.toList).length :: enc x.data.data.toList
def body (W : List Wr) : List UInt8 := UInt8.ofNat W.length :: W.flatMap wbytes
def front (b : List UInt8) : List UInt8 := 114 :: UInt8.ofNat (b.length / 256) :: UInt8.ofNat (b.length % 256) :: b
/-- P4.1 -/
def recL (W : List Wr) : List UInt8 := front (body W) ++ sealL (front (body W))

def parse : Nat → List UInt8 → Option (List Wr)
  | 0, s => if s = [] then some [] else none
  | k + 1, b :: n :: rest =>
    if rest.length < n.toNat then none
    else match unp (rest.take n.toNat) with
      | none => none
      | some d => (parse k (rest.drop n.toNat)).map fun W => ⟨(b.toNat : Int), ⟨d.toArray⟩⟩ :: W
  | _ + 1, _ => none
/-- P4.2: the record in front -/
def recAt (n : Int) (s : List UInt8) : Option (List Wr × Nat) :=
  match s with
  | c :: h :: l :: rest =>
    if c ≠ 114 ∨ rest.length < 256 * h.toNat + l.toNat + 4 then none
    else if (rest.drop (256 * h.toNat + l.toNat)).take 4 ≠ sealL (c :: h :: l :: rest.take (256 * h.toNat + l.toNat)) then none
    else match rest.take (256 * h.toNat + l.toNat) with
      | [] => none
      | k :: b => match parse k.toNat b with
        | none => none
        | some W => if wFault W n = 0 then some (W, 256 * h.toNat + l.toNat + 7) else none
  | _ => none
theorem recAt_le {n : Int} {s : List UInt8} {W : List Wr} {u : Nat} (h : recAt n s = some (W, u)) : 7 ≤ u ∧ u ≤ s.length := by
  unfold recAt at h
  split at h
  · rename_i c h' l rest
    by_cases h1 : c ≠ 114 ∨ rest.length < 256 * h'.toNat + l.toNat + 4
    · rw [if_pos h1] at h; cases h
    · rw [if_neg h1] at h
      by_cases h2 : (rest.drop (256 * h'.toNat + l.toNat)).take 4 ≠ sealL (c :: h' :: l :: rest.take (256 * h'.toNat + l.toNat))
      · rw [if_pos h2] at h; cases h
      · rw [if_neg h2] at h
        split at h
        · cases h
        · split at h
          · cases h
          · split at h
            · cases h
              simp only [List.length_cons]
              omega
            · cases h
  · cases h
def scan (n : Int) (s : List UInt8) : List (List Wr) × Nat :=
  match _h : recAt n s with
  | none => ([], 0)
  | some (W, u) => (W :: (scan n (s.drop u)).1, u + (scan n (s.drop u)).2)
termination_by s.length
decreasing_by all_goals (have := recAt_le _h; rw [List.length_drop]; omega)
theorem scan_none {n : Int} {s : List UInt8} (h : recAt n s = none) : scan n s = ([], 0) := by
  rw [scan]
  split
  · rfl
  · rename_i h'; rw [h] at h'; cases h'
theorem scan_some {n : Int} {s : List UInt8} {W : List Wr} {u : Nat} (h : recAt n s = some (W, u)) : scan n s = (W :: (scan n (s.drop u)).1, u + (scan n (s.drop u)).2) := by
  rw [scan]
  split
  · rename_i h'; rw [h] at h'; cases h'
  · rename_i h'; rw [h] at h'; cases h'; rfl

/-! ### what was recorded -/
theorem blk_round {x : Wr} (h0 : 0 ≤ x.block) (h1 : x.block < 256) : ((UInt8.ofNat x.block.toNat).toNat : Int) = x.block := by
  rw [toNat_of (by omega)]
  omega
theorem enc_small {x : Wr} (h : x.data.size ≤ 48) : (enc x.data.data.toList).length ≤ 49 := by
  have := (enc_len1 _ x.data.data.toList rfl).1
  have h' : x.data.data.toList.length = x.data.size := Array.length_toList
  omega
def Small (x : Wr) : Prop := 0 ≤ x.block ∧ x.block < 256 ∧ x.data.size ≤ 48
theorem parse_body : ∀ (W : List Wr), (∀ x ∈ W, Small x) → parse W.length (W.flatMap wbytes) = some W
  | [], _ => by simp [parse]
  | x :: W, h => by
    obtain ⟨h0, h1, h2⟩ := h x (by simp)
    have ht := enc_small h2
    have hn := toNat_of (a := (enc x.data.data.toList).length) (by omega)
    have hd : x.data.data.toList.length ≤ 48 := by rw [Array.length_toList]; exact h2
    rw [List.flatMap_cons]
    unfold wbytes
    rw [List.length_cons, List.cons_append, List.cons_append, parse, hn, if_neg (by simp)]
    rw [List.take_left' rfl, List.drop_left' rfl, unp_enc hd]
    have ih := parse_body W (fun y hy => h y (by simp [hy]))
    unfold wbytes at ih
    simp only [ih, Option.map_some]
    rw [blk_round h0 h1]
theorem body_len {W : List Wr} (h : ∀ x ∈ W, Small x) : (body W).length ≤ 1 + 51 * W.length := by
  unfold body
  rw [List.length_cons]
  have : ∀ W : List Wr, (∀ x ∈ W, Small x) → (W.flatMap wbytes).length ≤ 51 * W.length := by
    intro W
    induction W with
    | nil => simp
    | cons x W ih =>
      intro h
      have h1 := enc_small (h x (by simp)).2.2
      have h2 := ih (fun y hy => h y (by simp [hy]))
      rw [List.flatMap_cons, List.length_append]
      unfold wbytes at h2 ⊢
      simp only [List.length_cons]
      omega
  have := this W h
  omega
/-- a good transaction -/
structure Good (n : Nat) (W : List Wr) : Prop where
  ok : wFault W n = 0
  n32 : n ≤ 32
theorem Good.small {n : Nat} {W : List Wr} (h : Good n W) : ∀ x ∈ W, Small x := fun x hx => by
  have h1 := (wFault_ok h.ok).all x hx
  have h2 := h.n32
  exact ⟨h1.1, by omega, h1.2.2⟩
theorem Good.body {n : Nat} {W : List Wr} (h : Good n W) : (body W).length ≤ 613 := by
  have h1 := body_len h.small
  have h2 := (wFault_ok h.ok).len
  omega
theorem rec_len (W : List Wr) : (recL W).length = (body W).length + 7 := by
  unfold recL front
  simp [sealL_length]
theorem body_pos (W : List Wr) : 1 ≤ (body W).length := by unfold body; simp
theorem len_round {m : Nat} (h : m < 65536) : 256 * (UInt8.ofNat (m / 256)).toNat + (UInt8.ofNat (m % 256)).toNat = m := by
  rw [toNat_of (by omega), toNat_of (by omega)]
  omega
/-- the front of a record: told apart -/
theorem recAt_cons (n : Int) (c : UInt8) (b : List UInt8) (hb : b.length < 65536) (rest : List UInt8) : recAt n (c :: UInt8.ofNat (b.length / 256) :: UInt8.ofNat (b.length % 256) :: (b ++ rest)) =
    if c ≠ 114 ∨ rest.length < 4 then none else if rest.take 4 ≠ sealL (c :: UInt8.ofNat (b.length / 256) :: UInt8.ofNat (b.length % 256) :: b) then none else match b with
      | [] => none
      | k :: b' => match parse k.toNat b' with
        | none => none
        | some W => if wFault W n = 0 then some (W, b.length + 7) else none := by
  rw [recAt]
  rw [len_round hb, List.drop_left' rfl, List.take_left' rfl, List.length_append]
  by_cases h1 : c ≠ 114 ∨ rest.length < 4
  · rw [if_pos h1, if_pos (h1.imp_right fun h => by omega)]
  · rw [if_neg h1, if_neg (fun h => h1 (h.imp_right fun h => by omega))]
theorem recAt_rec {n : Nat} {W : List Wr} (h : Good n W) (s : List UInt8) : recAt n (recL W ++ s) = some (W, (recL W).length) := by
  have hb := h.body
  have e : recL W ++ s = 114 :: UInt8.ofNat ((body W).length / 256) :: UInt8.ofNat ((body W).length % 256) :: (body W ++ (sealL (front (body W)) ++ s)) := by
    unfold recL front
    simp
  rw [e, recAt_cons _ _ _ (by omega), if_neg (by simp [sealL_length]), List.take_left' (sealL_length _)]
  rw [if_neg (by unfold front; simp)]
  have hl := (wFault_ok h.ok).len
  rw [rec_len]
  unfold body
  simp only
  rw [toNat_of (by omega), parse_body W h.small]
  simp only
  rw [if_pos h.ok]
theorem scan_rec {n : Nat} {W : List Wr} (h : Good n W) (s : List UInt8) : scan n (recL W ++ s) = (W :: (scan n s).1, (recL W).length + (scan n s).2) := by
  rw [scan_some (recAt_rec h s), List.drop_left' rfl]
theorem scan_recs {n : Nat} : ∀ (L : List (List Wr)), (∀ W ∈ L, Good n W) → ∀ s : List UInt8, scan n (L.flatMap recL ++ s) = (L ++ (scan n s).1, (L.flatMap recL).length + (scan n s).2)
  | [], _, s => by simp
  | W :: L, h, s => by
    rw [List.flatMap_cons, List.append_assoc, scan_rec (h W (by simp)), scan_recs L (fun V hV => h V (by simp [hV])) s, List.length_append]
    simp [Nat.add_assoc]
theorem recAt_nil (n : Int) : recAt n [] = none := rfl
theorem scan_all {n : Nat} {L : List (List Wr)} (h : ∀ W ∈ L, Good n W) : scan n (L.flatMap recL) = (L, (L.flatMap recL).length) := by
  have := scan_recs L h []
  rw [scan_none (recAt_nil _)] at this
  simpa using this
/-- a cut record is none -/
theorem recAt_cut {n : Nat} {W : List Wr} (h : Good n W) {j : Nat} (hj : j < (recL W).length) : recAt n ((recL W).take j) = none := by
  have hb := h.body
  rw [rec_len] at hj
  match j, hj with
  | 0, _ => rfl
  | 1, _ => rfl
  | 2, _ => rfl
  | j + 3, hj =>
    have e : (recL W).take (j + 3) = 114 :: UInt8.ofNat ((body W).length / 256) :: UInt8.ofNat ((body W).length % 256) :: (body W ++ sealL (front (body W))).take j := by
      unfold recL front
      simp
    rw [e, recAt, len_round (by omega), if_pos (.inr (by rw [List.length_take]; omega))]
theorem set_split {b : UInt8} : ∀ (L : List UInt8) (j : Nat) (_ : j < L.length), ∃ A c C, L = A ++ c :: C ∧ A.length = j ∧ L[j]? = some c ∧ L.set j b = A ++ b :: C
  | [], j, h => by simp at h
  | c :: C, 0, _ => ⟨[], c, C, rfl, rfl, rfl, rfl⟩
  | x :: L, j + 1, h => by
    obtain ⟨A, c, C, h1, h2, h3, h4⟩ := set_split (b := b) L j (by simpa using h)
    exact ⟨x :: A, c, C, by rw [h1]; rfl, by simp [h2], by simpa using h3, by simp [h4]⟩
/-- a spoilt record is none -/
theorem recAt_spoilt {n : Nat} {W : List Wr} (h : Good n W) {j : Nat} (hj : j < (recL W).length) {b c : UInt8} (hc : (recL W)[j]? = some c) (hbc : b ≠ c) (h1 : j ≠ 1) (h2 : j ≠ 2) (s : List UInt8) : recAt n ((recL W).set j b ++ s) = none := by
  have hb := h.body
  have hl := rec_len W
  by_cases h0 : j = 0
  · subst h0
    have e : (recL W).set 0 b ++ s = b :: UInt8.ofNat ((body W).length / 256) :: UInt8.ofNat ((body W).length % 256) :: (body W ++ (sealL (front (body W)) ++ s)) := by
      unfold recL front
      simp
    have hc' : c = 114 := by unfold recL front at hc; simpa using hc.symm
    rw [e, recAt_cons _ _ _ (by omega), if_pos (.inl (by rw [← hc']; exact hbc))]
  · obtain ⟨j', rfl⟩ : ∃ j', j = j' + 3 := ⟨j - 3, by omega⟩
    by_cases hjb : j' < (body W).length
    · obtain ⟨A, c', C, e1, e2, e3, e4⟩ := set_split (b := b) (body W) j' hjb
      have hcc : c' = c := by
        unfold recL front at hc
        simp only [List.cons_append, List.getElem?_cons_succ] at hc
        rw [List.getElem?_append_left hjb, e3] at hc
        exact Option.some.inj hc
      subst hcc
      have e : (recL W).set (j' + 3) b ++ s = 114 :: UInt8.ofNat (((body W).set j' b).length / 256) :: UInt8.ofNat (((body W).set j' b).length % 256) :: ((body W).set j' b ++ (sealL (front (body W)) ++ s)) := by
        rw [List.length_set]
        unfold recL front
        simp only [List.cons_append, List.set_cons_succ]
        rw [List.set_append_left _ _ hjb]
        simp
      rw [e, recAt_cons _ _ _ (by rw [List.length_set]; omega), if_neg (by simp [sealL_length]), List.take_left' (sealL_length _)]
      rw [if_pos]
      intro hs
      rw [List.length_set, e4] at hs
      unfold front at hs
      rw [e1] at hs
      have := sealL_turned (A := 114 :: UInt8.ofNat ((A ++ c' :: C).length / 256) :: UInt8.ofNat ((A ++ c' :: C).length % 256) :: A) (b := c') (b' := b) (C := C) hs
      exact hbc this.symm
    · obtain ⟨i, hi⟩ : ∃ i, j' = (body W).length + i := ⟨j' - (body W).length, by omega⟩
      subst hi
      have hi4 : i < (sealL (front (body W))).length := by rw [sealL_length]; omega
      have e : (recL W).set ((body W).length + i + 3) b ++ s = 114 :: UInt8.ofNat ((body W).length / 256) :: UInt8.ofNat ((body W).length % 256) :: (body W ++ ((sealL (front (body W))).set i b ++ s)) := by
        unfold recL front
        simp only [List.cons_append, List.set_cons_succ]
        rw [List.set_append_right _ _ (by omega)]
        simp
      have hcc : (sealL (front (body W)))[i]? = some c := by
        unfold recL front at hc
        simp only [List.cons_append, List.getElem?_cons_succ] at hc
        rw [List.getElem?_append_right (by omega)] at hc
        simpa [front] using hc
      rw [e, recAt_cons _ _ _ (by omega), if_neg (by simp [sealL_length]), List.take_left' (by simp [sealL_length])]
      rw [if_pos]
      intro hs
      have h3 : ((sealL (front (body W))).set i b)[i]? = some b := by rw [List.getElem?_set_self hi4]
      rw [hs] at h3
      have h4 : (sealL (front (body W)))[i]? = some b := h3
      rw [hcc] at h4
      exact hbc (Option.some.inj h4).symm

/-! ### the statements' words: many records fit below k, sum is their bytes -/
def bytesOf (L : List (List Wr)) : List UInt8 := L.flatMap recL
theorem take_split {L : List (List Wr)} {m : Nat} (hm : m < L.length) : bytesOf L = bytesOf (L.take m) ++ (recL L[m] ++ bytesOf (L.drop (m + 1))) := by
  have h : L = L.take m ++ L[m] :: L.drop (m + 1) := by
    rw [← List.drop_eq_getElem_cons hm, List.take_append_drop]
  unfold bytesOf
  conv => lhs; rw [h]
  rw [List.flatMap_append, List.flatMap_cons]
theorem scan_cut {n : Nat} {L : List (List Wr)} (h : ∀ W ∈ L, Good n W) {m k : Nat} (hm : m ≤ L.length) (h1 : (bytesOf (L.take m)).length ≤ k) (h2 : ∀ (hlt : m < L.length), k < (bytesOf (L.take m)).length + (recL L[m]).length) (_hk : k ≤ (bytesOf L).length) :
    scan n ((bytesOf L).take k) = (L.take m, (bytesOf (L.take m)).length) := by
  have hg : ∀ W ∈ L.take m, Good n W := fun W hW => h W (List.mem_of_mem_take hW)
  by_cases hlt : m < L.length
  · have hk2 := h2 hlt
    rw [take_split hlt, List.take_append, List.take_of_length_le h1, List.take_append_of_le_length (by omega)]
    have := scan_recs (L.take m) hg ((recL L[m]).take (k - (bytesOf (L.take m)).length))
    rw [scan_none (recAt_cut (h _ (List.getElem_mem hlt)) (by omega))] at this
    simpa [bytesOf] using this
  · have he : L.take m = L := List.take_of_length_le (by omega)
    rw [he] at h1 ⊢
    rw [List.take_of_length_le (by omega)]
    exact scan_all h
theorem scan_spoilt {n : Nat} {L : List (List Wr)} (h : ∀ W ∈ L, Good n W) {m k : Nat} (hlt : m < L.length) (h1 : (bytesOf (L.take m)).length ≤ k) (h2 : k < (bytesOf (L.take m)).length + (recL L[m]).length) {b c : UInt8} (hc : (bytesOf L)[k]? = some c) (hbc : b ≠ c) :
    if k - (bytesOf (L.take m)).length = 1 ∨ k - (bytesOf (L.take m)).length = 2 then (bytesOf (L.take m)).length ≤ (scan n ((bytesOf L).set k b)).2
    else scan n ((bytesOf L).set k b) = (L.take m, (bytesOf (L.take m)).length) := by
  have hg : ∀ W ∈ L.take m, Good n W := fun W hW => h W (List.mem_of_mem_take hW)
  obtain ⟨j, rfl⟩ : ∃ j, k = (bytesOf (L.take m)).length + j := ⟨k - (bytesOf (L.take m)).length, by omega⟩
  have hj : j < (recL L[m]).length := by omega
  have hs : (bytesOf L).set ((bytesOf (L.take m)).length + j) b = bytesOf (L.take m) ++ ((recL L[m]).set j b ++ bytesOf (L.drop (m + 1))) := by
    rw [take_split hlt, List.set_append_right _ _ (by omega), Nat.add_sub_cancel_left, List.set_append_left _ _ hj]
  have hcj : (recL L[m])[j]? = some c := by
    rw [take_split hlt, List.getElem?_append_right (by omega), Nat.add_sub_cancel_left, List.getElem?_append_left hj] at hc
    exact hc
  have hr := scan_recs (L.take m) hg ((recL L[m]).set j b ++ bytesOf (L.drop (m + 1)))
  change scan n (bytesOf (L.take m) ++ _) = _ at hr
  rw [hs, Nat.add_sub_cancel_left]
  by_cases h3 : j = 1 ∨ j = 2
  · rw [if_pos h3, hr]
    exact Nat.le_add_right _ _
  · rw [if_neg h3, hr, scan_none (recAt_spoilt (h _ (List.getElem_mem hlt)) hj hcj hbc (fun e => h3 (.inl e)) (fun e => h3 (.inr e)) _)]
    simp [bytesOf]
theorem rec_empty : recL [] = [114, 0, 1, 0, 1, 206, 0, 116] := by decide
theorem scan_empty : scan 1 [114, 0, 1, 0, 1, 206, 0, 116] = ([[]], 8) := by
  have h : Good 1 [] := ⟨by decide, by omega⟩
  have := scan_rec h []
  rw [List.append_nil, scan_none (recAt_nil _), rec_empty] at this
  exact this
/-- how many records lie whole within k bytes -/
def fits : List (List Wr) → Nat → Nat
  | [], _ => 0
  | W :: D, k => if (recL W).length ≤ k then fits D (k - (recL W).length) + 1 else 0
theorem fits_le : ∀ (D : List (List Wr)) (k : Nat), fits D k ≤ D.length
  | [], _ => Nat.le_refl _
  | W :: D, k => by
    unfold fits
    split
    · have := fits_le D (k - (recL W).length)
      rw [List.length_cons]
      omega
    · exact Nat.zero_le _
theorem fits_all : ∀ (D : List (List Wr)) (k : Nat), (bytesOf D).length ≤ k → fits D k = D.length
  | [], _, _ => rfl
  | W :: D, k, h => by
    unfold bytesOf at h
    rw [List.flatMap_cons, List.length_append] at h
    unfold fits
    rw [if_pos (by omega), fits_all D _ (by unfold bytesOf; omega), List.length_cons]
theorem fits_zero : ∀ (D : List (List Wr)), fits D 0 = 0
  | [] => rfl
  | W :: D => by
    unfold fits
    rw [if_neg (by rw [rec_len]; omega)]
theorem bytes_cons (W : List Wr) (D : List (List Wr)) : (bytesOf (W :: D)).length = (recL W).length + (bytesOf D).length := by
  unfold bytesOf
  rw [List.flatMap_cons, List.length_append]
theorem bytes_snoc {D : List (List Wr)} {k : Nat} {W : List Wr} (h : D[k]? = some W) : (bytesOf (D.take (k + 1))).length = (bytesOf (D.take k)).length + (recL W).length := by
  rw [take_snoc h]
  unfold bytesOf
  simp
theorem fits_spec : ∀ (D : List (List Wr)) (k : Nat), (bytesOf (D.take (fits D k))).length ≤ k ∧ ∀ (h : fits D k < D.length), k < (bytesOf (D.take (fits D k))).length + (recL D[fits D k]).length
  | [], k => ⟨Nat.zero_le _, fun h => by simp [fits] at h⟩
  | W :: D, k => by
    by_cases hc : (recL W).length ≤ k
    · obtain ⟨h1, h2⟩ := fits_spec D (k - (recL W).length)
      have e : fits (W :: D) k = fits D (k - (recL W).length) + 1 := by
        rw [fits, if_pos hc]
      refine ⟨?_, fun h => ?_⟩
      · rw [e, List.take_succ_cons, bytes_cons]
        omega
      · have h' : fits D (k - (recL W).length) < D.length := by rw [e] at h; simpa using h
        have := h2 h'
        have e3 : (W :: D)[fits (W :: D) k] = D[fits D (k - (recL W).length)] := by simp only [e]; rfl
        rw [e3, e, List.take_succ_cons, bytes_cons]
        omega
    · have e : fits (W :: D) k = 0 := by rw [fits, if_neg hc]
      refine ⟨by rw [e]; exact Nat.zero_le _, fun h => ?_⟩
      have e3 : (W :: D)[fits (W :: D) k] = W := by simp only [e]; rfl
      rw [e3, e]
      show k < 0 + _
      omega
theorem scan_fits {n : Nat} {L : List (List Wr)} (h : ∀ W ∈ L, Good n W) {k : Nat} (hk : k ≤ (bytesOf L).length) : scan n ((bytesOf L).take k) = (L.take (fits L k), (bytesOf (L.take (fits L k))).length) :=
  scan_cut h (fits_le L k) (fits_spec L k).1 (fits_spec L k).2 hk
theorem bytes_take (D : List (List Wr)) (k : Nat) : (bytesOf (D.take k)).length ≤ (bytesOf D).length := by
  have := congrArg (fun L => (bytesOf L).length) (List.take_append_drop k D)
  unfold bytesOf at this ⊢
  simp only [List.flatMap_append, List.length_append] at this
  omega
theorem bytes_mono (D : List (List Wr)) {j k : Nat} (h : j ≤ k) : (bytesOf (D.take j)).length ≤ (bytesOf (D.take k)).length := by
  have := bytes_take (D.take k) j
  rw [List.take_take, Nat.min_eq_left h] at this
  exact this
/-- the statements' loop: one record more fits just where it is one of them -/
theorem fits_more {D : List (List Wr)} {k j : Nat} {W : List Wr} (hj : j ≤ fits D k) (h : D[j]? = some W) : (bytesOf (D.take j)).length + (recL W).length ≤ k ↔ j < fits D k := by
  have hl := (List.getElem?_eq_some_iff.1 h).1
  constructor
  · intro h1
    by_cases he : j = fits D k
    · subst he
      have h2 := (fits_spec D k).2 hl
      rw [(List.getElem?_eq_some_iff.1 h).2] at h2
      omega
    · omega
  · intro h1
    rw [← bytes_snoc h]
    exact Nat.le_trans (bytes_mono D h1) (fits_spec D k).1
end LM
end Go.Proofs.Ythjaanhkmfiajac

/- Reading a record the way package log does: decode the front of the body, record again, compare. It is the same as the document's reading (LogMath's recAt). Besides: how many records a scan can find, how long a small record is. Condition: at most 32 blocks. No program's run. -/
namespace Go.Proofs.Ythjaanhkmfiajac
open PM
namespace LM

/-- the writes at the front: what follows them is not looked at -/
def parseP : Nat → List UInt8 → Option (List Wr)
  | 0, _ => some []
  | k + 1, b :: n :: rest =>
    if rest.length < n.toNat then none
    else match unp (rest.take n.toNat) with
      | none => none
      | some d => (parseP k (rest.drop n.toNat)).map fun W => ⟨(b.toNat : Int), ⟨d.toArray⟩⟩ :: W
  | _ + 1, _ => none
theorem unp_inv {s d : List UInt8} (h : unp s = some d) : enc d = s := by
  unfold unp at h
  split at h
  · rename_i d' _
    by_cases he : enc d' = s
    · rw [if_pos he] at h; cases h; exact he
    · rw [if_neg he] at h; cases h
  · cases h
theorem parse_inv : ∀ (k : Nat) (s : List UInt8) (W : List Wr), parse k s = some W → W.length = k ∧ W.flatMap wbytes = s ∧ parseP k s = some W
  | 0, s, W, h => by
    unfold parse at h
    by_cases hs : s = []
    · rw [if_pos hs] at h; cases h; subst hs; exact ⟨rfl, rfl, rfl⟩
    · rw [if_neg hs] at h; cases h
  | k + 1, b :: n :: rest, W, h => by
    rw [parse] at h
    by_cases hl : rest.length < n.toNat
    · rw [if_pos hl] at h; cases h
    · rw [if_neg hl] at h
      cases hu : unp (rest.take n.toNat) with
      | none => rw [hu] at h; cases h
      | some d =>
        rw [hu] at h
        simp only at h
        obtain ⟨V, hV, rfl⟩ := Option.map_eq_some_iff.1 h
        obtain ⟨h1, h2, h3⟩ := parse_inv k _ V hV
        have he := unp_inv hu
        refine ⟨by simp [h1], ?_, ?_⟩
        · have hw : wbytes ⟨(b.toNat : Int), ⟨d.toArray⟩⟩ = b :: n :: rest.take n.toNat := by
            show UInt8.ofNat (b.toNat : Int).toNat :: UInt8.ofNat (enc d).length :: enc d = _
            rw [he, List.length_take, Nat.min_eq_left (by omega), Int.toNat_natCast, UInt8.ofNat_toNat, UInt8.ofNat_toNat]
          rw [List.flatMap_cons, h2, hw]
          simp
        · rw [parseP, if_neg hl, hu]
          simp only
          rw [h3]
          rfl
  | k + 1, [], W, h => by simp [parse] at h
  | k + 1, [b], W, h => by simp [parse] at h
def parseB : List UInt8 → Option (List Wr)
  | [] => none
  | k :: b => parseP k.toNat b
/-- the record in front, as the code looks for it; z: the two bytes of the length -/
def codeAt (n : Int) (s : List UInt8) (z : Nat) : Option (List Wr × Nat) :=
  if s.length < z + 7 then none
  else match parseB ((s.drop 3).take z) with
    | none => none
    | some W => if wFault W n = 0 ∧ recL W = s.take (z + 7) then some (W, z + 7) else none
theorem codeAt_some {n : Nat} (hn : n ≤ 32) {s : List UInt8} {z : Nat} {W : List Wr} {u : Nat} (h : codeAt n s z = some (W, u)) : recAt n s = some (W, u) := by
  unfold codeAt at h
  by_cases hl : s.length < z + 7
  · rw [if_pos hl] at h; cases h
  · rw [if_neg hl] at h
    split at h
    · cases h
    · rename_i V _
      by_cases hc : wFault V n = 0 ∧ recL V = s.take (z + 7)
      · rw [if_pos hc] at h
        cases h
        have hr := recAt_rec (W := W) ⟨hc.1, hn⟩ (s.drop (z + 7))
        rw [hc.2, List.take_append_drop, List.length_take, Nat.min_eq_left (by omega)] at hr
        exact hr
      · rw [if_neg hc] at h; cases h
theorem recAt_code {n : Nat} {c h l : UInt8} {rest : List UInt8} {W : List Wr} {u : Nat} (hr : recAt n (c :: h :: l :: rest) = some (W, u)) :
    codeAt n (c :: h :: l :: rest) (256 * h.toNat + l.toNat) = some (W, u) := by
  rw [recAt] at hr
  by_cases h1 : c ≠ 114 ∨ rest.length < 256 * h.toNat + l.toNat + 4
  · rw [if_pos h1] at hr; cases hr
  · rw [if_neg h1] at hr
    have hc : c = 114 := Classical.byContradiction fun hh => h1 (.inl hh)
    have hlen : ¬ rest.length < 256 * h.toNat + l.toNat + 4 := fun hh => h1 (.inr hh)
    by_cases h2 : (rest.drop (256 * h.toNat + l.toNat)).take 4 ≠ sealL (c :: h :: l :: rest.take (256 * h.toNat + l.toNat))
    · rw [if_pos h2] at hr; cases hr
    · rw [if_neg h2] at hr
      have h2' := Classical.not_not.1 h2
      generalize hz : 256 * h.toNat + l.toNat = z at hr h2' hlen ⊢
      have hzlen : (rest.take z).length = z := by rw [List.length_take]; omega
      cases hb : rest.take z with
      | nil => rw [hb] at hr; cases hr
      | cons k b =>
        rw [hb] at hr
        simp only at hr
        cases hp : parse k.toNat b with
        | none => rw [hp] at hr; cases hr
        | some V =>
          rw [hp] at hr
          simp only at hr
          by_cases hw : wFault V n = 0
          · rw [if_pos hw] at hr
            cases hr
            obtain ⟨p1, p2, p3⟩ := parse_inv _ _ _ hp
            have hbody : body W = rest.take z := by
              unfold body
              rw [p1, p2, UInt8.ofNat_toNat, hb]
            have hfront : front (body W) = c :: h :: l :: rest.take z := by
              unfold front
              rw [hbody, hzlen, hc]
              have e1 : z / 256 = h.toNat := by have := l.toNat_lt; omega
              have e2 : z % 256 = l.toNat := by have := l.toNat_lt; omega
              rw [e1, e2, UInt8.ofNat_toNat, UInt8.ofNat_toNat]
            have hrec : recL W = (c :: h :: l :: rest).take (z + 7) := by
              unfold recL
              rw [hfront, ← h2', show z + 7 = (z + 4) + 3 by omega]
              simp only [List.take_succ_cons, List.cons_append]
              rw [List.take_add]
            unfold codeAt
            rw [if_neg (by simp only [List.length_cons]; omega)]
            have hd : ((c :: h :: l :: rest).drop 3).take z = k :: b := by simp [hb]
            rw [hd]
            show (match parseP k.toNat b with | none => none | some W' => _) = _
            rw [p3]
            simp only
            rw [if_pos ⟨hw, hrec⟩]
          · rw [if_neg hw] at hr; cases hr
theorem recAt_three {n : Nat} (hn : n ≤ 32) (c h l : UInt8) (rest : List UInt8) : recAt n (c :: h :: l :: rest) = codeAt n (c :: h :: l :: rest) (256 * h.toNat + l.toNat) := by
  cases hc : codeAt n (c :: h :: l :: rest) (256 * h.toNat + l.toNat) with
  | some p => exact codeAt_some hn hc
  | none =>
    cases hr : recAt n (c :: h :: l :: rest) with
    | none => rfl
    | some p => rw [recAt_code (W := p.1) (u := p.2) hr] at hc; cases hc
theorem recAt_short {n : Int} {s : List UInt8} (h : s.length < 3) : recAt n s = none := by
  match s, h with
  | [], _ => rfl
  | [_], _ => rfl
  | [_, _], _ => rfl
  | _ :: _ :: _ :: _, h => simp at h; omega

/-! ### how many records a scan finds -/
theorem recAt_mark {n : Int} {s : List UInt8} {W : List Wr} {u : Nat} (h : recAt n s = some (W, u)) : ∃ t, s = 114 :: t := by
  unfold recAt at h
  split at h
  · rename_i c h' l rest
    by_cases h1 : c ≠ 114 ∨ rest.length < 256 * h'.toNat + l.toNat + 4
    · rw [if_pos h1] at h; cases h
    · have hc : c = 114 := Classical.byContradiction fun hh => h1 (.inl hh)
      exact ⟨_, by rw [hc]⟩
  · cases h
theorem scan_count (n : Int) : ∀ (k : Nat) (s : List UInt8), s.length = k → (scan n s).1.length ≤ s.count 114 := by
  intro k
  induction k using Nat.strongRecOn with
  | ind k ih =>
    intro s hs
    cases hr : recAt n s with
    | none => rw [scan_none hr]; simp
    | some p =>
      obtain ⟨W, u⟩ := p
      have hu := recAt_le hr
      rw [scan_some hr]
      have h1 := ih (s.drop u).length (by rw [List.length_drop]; omega) _ rfl
      obtain ⟨t, ht⟩ := recAt_mark hr
      have h2 : s.count 114 = (s.take u).count 114 + (s.drop u).count 114 := by rw [← List.count_append, List.take_append_drop]
      have h3 : 1 ≤ (s.take u).count 114 := by
        obtain ⟨u', rfl⟩ : ∃ u', u = u' + 1 := ⟨u - 1, by omega⟩
        rw [ht, List.take_succ_cons, List.count_cons_self]
        omega
      simp only [List.length_cons]
      omega
theorem scan_le (n : Int) : ∀ (k : Nat) (s : List UInt8), s.length = k → (scan n s).2 ≤ s.length := by
  intro k
  induction k using Nat.strongRecOn with
  | ind k ih =>
    intro s hs
    cases hr : recAt n s with
    | none => rw [scan_none hr]; simp
    | some p =>
      obtain ⟨W, u⟩ := p
      have hu := recAt_le hr
      rw [scan_some hr]
      have h1 := ih (s.drop u).length (by rw [List.length_drop]; omega) _ rfl
      rw [List.length_drop] at h1
      simp only
      omega

/-! ### small records: at most four writes of at most fifteen packed bytes, none of them 'r' -/
structure Tiny (x : Wr) : Prop where
  blk : 0 ≤ x.block ∧ x.block < 32
  len : (enc x.data.data.toList).length ≤ 15
  no : (114 : UInt8) ∉ enc x.data.data.toList
theorem Tiny.bytes {x : Wr} (h : Tiny x) : (wbytes x).length ≤ 17 ∧ (114 : UInt8) ∉ wbytes x := by
  have h1 := h.len
  have h2 := h.blk
  refine ⟨by unfold wbytes; simp only [List.length_cons]; omega, ?_⟩
  unfold wbytes
  simp only [List.mem_cons, not_or]
  refine ⟨fun e => ?_, fun e => ?_, h.no⟩
  · have := ofNat_inj (a := 114) (b := x.block.toNat) (by omega) (by omega) e
    omega
  · have := ofNat_inj (a := 114) (by omega) (by omega) e
    omega
theorem tiny_body {W : List Wr} (h : ∀ x ∈ W, Tiny x) (h4 : W.length ≤ 4) : (body W).length ≤ 69 ∧ (114 : UInt8) ∉ body W := by
  have hb : ∀ W : List Wr, (∀ x ∈ W, Tiny x) → (W.flatMap wbytes).length ≤ 17 * W.length ∧ (114 : UInt8) ∉ W.flatMap wbytes := by
    intro W
    induction W with
    | nil => simp
    | cons x W ih =>
      intro h
      obtain ⟨a1, a2⟩ := (h x (by simp)).bytes
      obtain ⟨b1, b2⟩ := ih (fun y hy => h y (by simp [hy]))
      rw [List.flatMap_cons, List.length_append, List.length_cons, List.mem_append]
      exact ⟨by omega, fun hh => hh.elim a2 b2⟩
  obtain ⟨h1, h2⟩ := hb W h
  unfold body
  rw [List.length_cons, List.mem_cons, not_or]
  refine ⟨by omega, fun e => ?_, h2⟩
  have := ofNat_inj (a := 114) (b := W.length) (by omega) (by omega) e
  omega
theorem tiny_rec {W : List Wr} (h : ∀ x ∈ W, Tiny x) (h4 : W.length ≤ 4) : (recL W).length ≤ 76 ∧ (recL W).count 114 ≤ 5 := by
  obtain ⟨h1, h2⟩ := tiny_body h h4
  refine ⟨by rw [rec_len]; omega, ?_⟩
  unfold recL front
  have n1 : UInt8.ofNat ((body W).length / 256) ≠ 114 := fun e => by
    have := ofNat_inj (b := 114) (by omega) (by omega) e
    omega
  have n2 : UInt8.ofNat ((body W).length % 256) ≠ 114 := fun e => by
    have := ofNat_inj (b := 114) (by omega) (by omega) e
    omega
  rw [List.count_append, List.count_cons_self, List.count_cons_of_ne n1, List.count_cons_of_ne n2, List.count_eq_zero_of_not_mem h2]
  have := List.count_le_length (a := (114 : UInt8)) (l := sealL (114 :: UInt8.ofNat ((body W).length / 256) :: UInt8.ofNat ((body W).length % 256) :: body W))
  rw [sealL_length] at this
  omega
theorem tiny_bytes : ∀ {L : List (List Wr)}, (∀ W ∈ L, W.length ≤ 4 ∧ ∀ x ∈ W, Tiny x) → (bytesOf L).length ≤ 76 * L.length ∧ (bytesOf L).count 114 ≤ 5 * L.length
  | [], _ => by simp [bytesOf]
  | W :: L, h => by
    have h1 := tiny_rec (h W (by simp)).2 (h W (by simp)).1
    have h2 := tiny_bytes (L := L) (fun V hV => h V (by simp [hV]))
    unfold bytesOf at h2 ⊢
    rw [List.flatMap_cons, List.length_append, List.count_append, List.length_cons]
    omega
theorem count_set : ∀ (s : List UInt8) (k : Nat) (b : UInt8), (s.set k b).count 114 ≤ s.count 114 + 1
  | [], k, b => by simp
  | c :: s, 0, b => by
    rw [List.set_cons_zero, List.count_cons, List.count_cons]
    split <;> split <;> omega
  | c :: s, k + 1, b => by
    have := count_set s k b
    rw [List.set_cons_succ, List.count_cons, List.count_cons]
    omega
/-- each byte of a packed text is one of its own, a run's head, or below its length -/
theorem enc_mem : ∀ (n : Nat) (l : List UInt8), l.length = n → l.length ≤ 48 → ∀ b ∈ enc l, b ∈ l ∨ 128 ≤ b.toNat ∨ b.toNat < l.length := by
  intro n
  induction n using Nat.strongRecOn with
  | ind n ih =>
    intro l hl h48 b hb
    by_cases hne : l = []
    · subst hne; rw [enc_nil] at hb; cases hb
    · have hpos : 0 < l.length := List.length_pos_iff.2 hne
      by_cases h : 3 ≤ rl l
      · have h1 := rl_le l
        rw [enc_run h] at hb
        simp only [List.mem_cons] at hb
        rcases hb with rfl | rfl | hb
        · right; left
          rw [toNat_of (by omega)]
          omega
        · left
          match l, hpos with
          | c :: t, _ => simp
        · rcases ih (l.drop (rl l)).length (by simp; omega) _ rfl (by simp; omega) b hb with h3 | h3 | h3
          · exact .inl (List.mem_of_mem_drop h3)
          · exact .inr (.inl h3)
          · exact .inr (.inr (by rw [List.length_drop] at h3; omega))
      · have h1 := lit_le l.tail
        rw [List.length_tail] at h1
        rw [enc_lit hne h] at hb
        simp only [List.mem_cons, List.mem_append] at hb
        rcases hb with rfl | hb | hb
        · right; right
          rw [toNat_of (by omega)]
          omega
        · exact .inl (List.mem_of_mem_take hb)
        · rcases ih (l.drop (lit l.tail + 1)).length (by simp; omega) _ rfl (by simp; omega) b hb with h3 | h3 | h3
          · exact .inl (List.mem_of_mem_drop h3)
          · exact .inr (.inl h3)
          · exact .inr (.inr (by rw [List.length_drop] at h3; omega))
end LM
end Go.Proofs.Ythjaanhkmfiajac

/- A row of slices of writes that a call owns, told by a list of lists of writes: append of one. No condition but those in the statements. -/
namespace Go.Proofs.Ythjaanhkmfiajac
open Go.RowKit

/-- the slice value u holds the writes W, in a block of writes -/
def InnerAt (w : World) (u : Value) (W : List Wr) : Prop :=
  WritesAt w u W ∧ ∀ p n c, u = .slice (some p) n c → ∃ cur fr, w.heap[p.block]? = some (.cells cur 61 fr)
theorem row_type {B : Nat} {e : TypeId} {size : Nat} {v : Value} {n : Nat} {xs : List Value} {w : World} (h : w.ownsRow B e size v n xs) : ∀ g, v.ownBlock = some g → ∃ cur, w.heap[g]? = some (.cells cur e (0, 0)) := by
  intro g hg
  rcases h.2 with ⟨rfl, _⟩ | ⟨g', cap, cur, rfl, _, hgg, _⟩
  · simp [Value.ownBlock] at hg
  · simp [Value.ownBlock] at hg
    subst hg
    exact ⟨cur, hgg⟩
theorem type_apart {e t : TypeId} (hne : e ≠ t) {B : Nat} {size : Nat} {v : Value} {n : Nat} {xs : List Value} {w : World} (h : w.ownsRow B e size v n xs) {k : Nat} {cur : Array Value} {fr : Nat × Nat} (hk : w.heap[k]? = some (.cells cur t fr)) : some k ≠ v.ownBlock := by
  intro he
  obtain ⟨c2, h2⟩ := row_type h k he.symm
  rw [hk] at h2
  simp only [Option.some.injEq, Obj.cells.injEq] at h2
  exact hne h2.2.1.symm
theorem InnerAt.keep {w w' : World} {u : Value} {W : List Wr} (h : InnerAt w u W) (hb : Below w.heap.size w w') : InnerAt w' u W := by
  refine ⟨h.1.keep hb, fun p n c hu => ?_⟩
  obtain ⟨cur, fr, hk⟩ := h.2 p n c hu
  exact ⟨cur, fr, (hb.block _ (Array.getElem?_eq_some_iff.1 hk).1).trans hk⟩
theorem InnerAt.grown {e : TypeId} (hne : e ≠ 61) {B : Nat} {size : Nat} {v : Value} {n : Nat} {xs : List Value} {w w' : World} {u : Value} {W : List Wr} (h : InnerAt w u W) (hrow : w.ownsRow B e size v n xs) (hg : w.grownBy w' v.ownBlock) : InnerAt w' u W := by
  obtain ⟨⟨p, cap, hv, hl, hn, hc⟩, ht⟩ := h
  refine ⟨⟨p, cap, hv, hl, hn, fun i x hx => ?_⟩, fun p' n' c' hu => ?_⟩
  · obtain ⟨b, off, hp, hlt, h0, h1⟩ := hc i x hx
    obtain ⟨cur, fr, hk⟩ := ht ⟨b, off, none⟩ _ _ (by rw [hv, hp])
    have hap := type_apart hne hrow hk
    exact ⟨b, off, hp, Nat.lt_of_lt_of_le hlt hg.size, hg.cell h0 hap, hg.cell h1 hap⟩
  · obtain ⟨cur, fr, hk⟩ := ht p' n' c' hu
    exact ⟨cur, fr, (hg.block _ (Array.getElem?_eq_some_iff.1 hk).1 (type_apart hne hrow hk)).trans hk⟩
theorem OwnW.inner {B : Nat} {v : Value} {L : List Wr} {W0 w : World} (h : OwnW B 61 v L W0 w) (hl : L.length ≤ 140737488355328) : InnerAt w v L := by
  refine ⟨h.writes hl, fun p n c hv => ?_⟩
  subst hv
  obtain ⟨cur, hc⟩ := row_type h.1 p.block rfl
  exact ⟨cur, _, hc⟩

/-- the slice value v holds the transactions D -/
def DealsAt (w : World) (v : Value) (D : List (List Wr)) : Prop :=
  ∃ (p : Option Addr) (cap : Nat), v = .slice p D.length cap ∧ D.length ≤ 140737488355328 ∧ D.length ≤ cap ∧
    ∀ (i : Nat) (W : List Wr), D[i]? = some W → ∃ g off u, p = some ⟨g, off, none⟩ ∧ g < w.heap.size ∧ w.cell? ⟨g, off + i, none⟩ = some u ∧ WritesAt w u W
theorem DealsAt.keep {w w' : World} {v : Value} {D : List (List Wr)} (h : DealsAt w v D) (hb : Below w.heap.size w w') : DealsAt w' v D := by
  obtain ⟨p, cap, hv, hl, hcp, hc⟩ := h
  refine ⟨p, cap, hv, hl, hcp, fun i x hx => ?_⟩
  obtain ⟨g, off, u, hp, hlt, h0, h1⟩ := hc i x hx
  exact ⟨g, off, u, hp, Nat.lt_of_lt_of_le hlt hb.size, (hb.cell (p := ⟨g, _, none⟩) hlt).trans h0, h1.keep hb⟩
/-- v is the call's own row of the transactions D -/
def OwnD (B : Nat) (e : TypeId) (v : Value) (D : List (List Wr)) (W0 w : World) : Prop :=
  ∃ vs : List Value, vs.length = D.length ∧ w.ownsRow B e 1 v D.length vs ∧ Below B W0 w ∧ B ≤ w.heap.size ∧ (∀ u ∈ vs, u.oneCell' = true) ∧ ∀ (i : Nat) u W, vs[i]? = some u → D[i]? = some W → InnerAt w u W
theorem OwnD.nil {B : Nat} {e : TypeId} {W0 w : World} (hb : Below B W0 w) (h : B ≤ w.heap.size) : OwnD B e (.slice none 0 0) [] W0 w := ⟨[], rfl, World.ownsRow_nil _ _ _ _, hb, h, by simp, by simp⟩
theorem OwnD.below {B : Nat} {e : TypeId} {v : Value} {D : List (List Wr)} {W0 w : World} (h : OwnD B e v D W0 w) : Below B W0 w := by
  obtain ⟨_, _, _, hb, _⟩ := h
  exact hb
theorem OwnD.size {B : Nat} {e : TypeId} {v : Value} {D : List (List Wr)} {W0 w : World} (h : OwnD B e v D W0 w) : B ≤ w.heap.size := by
  obtain ⟨_, _, _, _, hb, _⟩ := h
  exact hb
theorem OwnD.cast {B : Nat} {e : TypeId} {v : Value} {D D' : List (List Wr)} {W0 w : World} (h : OwnD B e v D W0 w) (hl : D = D') : OwnD B e v D' W0 w := hl ▸ h
theorem OwnD.past {B : Nat} {e : TypeId} {v : Value} {D : List (List Wr)} {W0 w w' : World} (h : OwnD B e v D W0 w) (hb : Below w.heap.size w w') : OwnD B e v D W0 w' := by
  obtain ⟨vs, hl, h1, h2, h3, h4, h5⟩ := h
  refine ⟨vs, hl, ⟨h1.1, ?_⟩, h2.trans (hb.mono h3), Nat.le_trans h3 hb.size, h4, fun i u W hu hW => (h5 i u W hu hW).keep hb⟩
  rcases h1.2 with hn | ⟨g, cap, cur, hv, hB, hg, rest⟩
  · exact .inl hn
  · exact .inr ⟨g, cap, cur, hv, hB, by rw [hb.block g (Array.getElem?_eq_some_iff.1 hg).1]; exact hg, rest⟩
theorem OwnD.alloc {B : Nat} {e : TypeId} {v : Value} {D : List (List Wr)} {W0 w : World} (h : OwnD B e v D W0 w) (o : Obj) : OwnD B e v D W0 (w.alloc o) := h.past ((Below.refl _ _).alloc (Nat.le_refl _) o)
theorem OwnD.lower {B B' : Nat} {e : TypeId} {v : Value} {D : List (List Wr)} {W0 W1 w : World} (h : OwnD B' e v D W1 w) (hB : B ≤ B') (hb : Below B W0 W1) : OwnD B e v D W0 w := by
  obtain ⟨vs, hl, h1, h2, h3, h4, h5⟩ := h
  refine ⟨vs, hl, ⟨h1.1, ?_⟩, hb.trans (h2.mono hB), Nat.le_trans hB h3, h4, h5⟩
  rcases h1.2 with hn | ⟨g, cap, cur, hv, hg, rest⟩
  · exact .inl hn
  · exact .inr ⟨g, cap, cur, hv, Nat.le_trans hB hg, rest⟩
theorem OwnD.isSlice {B : Nat} {e : TypeId} {v : Value} {D : List (List Wr)} {W0 w : World} (h : OwnD B e v D W0 w) : ∃ p c, v = .slice p D.length c := by
  obtain ⟨vs, hl, h1, _⟩ := h
  rcases h1.2 with ⟨rfl, hn⟩ | ⟨_, cap, _, rfl, _⟩
  · exact ⟨none, 0, by rw [hn]⟩
  · exact ⟨_, cap, rfl⟩
theorem OwnD.deals {B : Nat} {e : TypeId} {v : Value} {D : List (List Wr)} {W0 w : World} (h : OwnD B e v D W0 w) (hl : D.length ≤ 140737488355328) : DealsAt w v D := by
  obtain ⟨vs, hlv, h1, _, _, _, h5⟩ := h
  rcases h1.2 with ⟨rfl, hn⟩ | ⟨g, cap, cur, rfl, hB, hg, hcap, _, _, htk⟩
  · have : D = [] := List.eq_nil_of_length_eq_zero hn
    subst this
    exact ⟨none, 0, rfl, hl, Nat.le_refl _, fun i x hx => by simp at hx⟩
  · refine ⟨some ⟨g, 0, none⟩, cap, rfl, hl, hcap, fun i W hW => ?_⟩
    have hi : i < vs.length := by rw [hlv]; exact (List.getElem?_eq_some_iff.1 hW).1
    refine ⟨g, 0, vs[i], rfl, (Array.getElem?_eq_some_iff.1 hg).1, ?_, (h5 i _ W (List.getElem?_eq_getElem hi) hW).1⟩
    rw [Nat.zero_add]
    exact (h1.cellAt i (by omega)).trans (List.getElem?_eq_getElem hi)
/-- a slice's head holds the head -/
theorem DealsAt.take {w : World} {p : Option Addr} {n cap : Nat} {D : List (List Wr)} (h : DealsAt w (.slice p n cap) D) {k : Nat} (hk : k ≤ D.length) : DealsAt w (.slice p k cap) (D.take k) := by
  obtain ⟨p', cap', hv, hl, hcp, hc⟩ := h
  cases hv
  refine ⟨p, cap, by rw [List.length_take, Nat.min_eq_left hk], by rw [List.length_take]; omega, by rw [List.length_take]; omega, fun i W hW => ?_⟩
  rw [List.getElem?_take] at hW
  split at hW
  · exact hc i W hW
  · cases hW

section
variable {P : Program}
theorem wpList_own_deal {ops : Array Oper} {rest : List Oper} {o : Oper} {a : Act} {Q : Exit → Act → World → Prop} (hgd : o.guard = none) (s x : Operand) (t : TypeId)
    (ho : o.op = .call { callee := .builtin .append, args := #[s, x], argTypes := #[t, t] })
    (B : Nat) (e : TypeId) (hne : e ≠ 61) (i : TypeInfo) (z : Value) (ht : P.underlying t = some (.slice e)) (hi : P.info? e = some i) (hz : i.zero = some z) (hzs : z.cells.size = 1) (hsize : i.size = 1) (hby : i.bytes = 24)
    (v : Value) (D : List (List Wr)) (hs : a.eval s = v) (W0 w0 : World) (u : Value) (Y : List Wr) (hu1 : u.oneCell' = true) (hu : InnerAt w0 u Y) (hb : OwnD B e v D W0 w0)
    (g : Nat) (hx : a.eval x = .slice (some ⟨g, 0, none⟩) 1 1) (hgw : g = w0.heap.size) (hlen : (D.length + 1) * 24 ≤ 140737488355328)
    (h : ∀ v' w', OwnD B e v' (D ++ [Y]) W0 w' → w0.grownBy w' v.ownBlock → wpList P ops Q rest (a.put o.dst v') w') : wpList P ops Q (o :: rest) a (w0.alloc (.cells #[u] e)) := by
  subst hgw
  have hu' := hu.keep ((Below.refl _ _).alloc (Nat.le_refl _) (.cells #[u] e))
  have hb' := hb.alloc (.cells #[u] e)
  obtain ⟨vs, hlv, h1, h2, h3, h4, h5⟩ := hb'
  refine wpList_append_own _ hgd s x t ho B e i z 1 24 ht hi hz hsize hby hzs (by decide) v D.length vs hs h1 ⟨w0.heap.size, 0, none⟩ 1 1 [u] hx rfl ?_ (by simpa using hu1) (by unfold maxLen; omega) hlen h3 ?_
  · intro j y hj
    match j, hj with
    | 0, hj => simp at hj; subst hj; simp [Addr.add]
    | j + 1, hj => simp at hj
  · intro v' w' ho' hg _
    refine h v' w' ⟨vs ++ [u], by simp [hlv], by rw [List.length_append]; exact ho', h2.grown hg h3 (fun k hk => (h1.lt k hk).1), Nat.le_trans h3 hg.size, ?_, ?_⟩ (grown_twice (World.grownBy_alloc w0 _ _) hg)
    · intro y hy
      rcases List.mem_append.1 hy with hy | hy
      · exact h4 y hy
      · simp at hy; subst hy; exact hu1
    · intro i y W hy hW
      by_cases hi : i < vs.length
      · rw [List.getElem?_append_left hi] at hy
        rw [List.getElem?_append_left (by omega)] at hW
        exact (h5 i y W hy hW).grown hne h1 hg
      · rw [List.getElem?_append_right (by omega)] at hy
        rw [List.getElem?_append_right (by omega)] at hW
        have hi0 : i - vs.length = 0 := by
          have := (List.getElem?_eq_some_iff.1 hy).1
          simp at this
          omega
        rw [hi0] at hy
        rw [← hlv, hi0] at hW
        simp at hy hW
        subst hy hW
        exact hu'.grown hne h1 hg
end
end Go.Proofs.Ythjaanhkmfiajac

/- Rows of structs of whatever number of one-cell fields, told by a list and an encoding: read, and owned by a call (append of one, of a whole slice). No condition but those in the statements. -/
namespace Go.Proofs.Ythjaanhkmfiajac
open Go.RowKit

/-- an encoding in k cells of one value each -/
structure Enc {α : Type} (enc : α → List Value) (k : Nat) : Prop where
  len : ∀ x, (enc x).length = k
  one : ∀ x, ∀ u ∈ enc x, u.oneCell' = true
  pos : 0 < k
section
variable {α : Type} {enc : α → List Value} {k : Nat}
def rcells (enc : α → List Value) (L : List α) : List Value := L.flatMap enc
theorem rcells_append (A B : List α) : rcells enc (A ++ B) = rcells enc A ++ rcells enc B := by unfold rcells; rw [List.flatMap_append]
theorem rcells_length (he : Enc enc k) : ∀ L : List α, (rcells enc L).length = L.length * k
  | [] => by simp [rcells]
  | x :: L => by
    unfold rcells
    rw [List.flatMap_cons, List.length_append, he.len]
    have := rcells_length he L
    unfold rcells at this
    rw [this, List.length_cons, Nat.succ_mul, Nat.add_comm]
theorem rcells_one (he : Enc enc k) (L : List α) : ∀ u ∈ rcells enc L, u.oneCell' = true := by
  intro u hu
  obtain ⟨x, _, hx⟩ := List.mem_flatMap.1 hu
  exact he.one x u hx
theorem rcells_at (he : Enc enc k) : ∀ (L : List α) (i : Nat) (x : α) (j : Nat), L[i]? = some x → j < k → (rcells enc L)[i * k + j]? = (enc x)[j]?
  | [], i, x, j, h, _ => by simp at h
  | y :: L, 0, x, j, h, hj => by
    simp at h
    subst h
    unfold rcells
    rw [List.flatMap_cons, Nat.zero_mul, Nat.zero_add, List.getElem?_append_left (by rw [he.len]; exact hj)]
  | y :: L, i + 1, x, j, h, hj => by
    have := rcells_at he L i x j (by simpa using h) hj
    unfold rcells at this ⊢
    rw [List.flatMap_cons, List.getElem?_append_right (by rw [he.len, Nat.succ_mul]; omega), he.len, ← this]
    congr 1
    rw [Nat.succ_mul]
    omega
/-- the slice value v holds the list L -/
def RowsAt (enc : α → List Value) (k : Nat) (w : World) (v : Value) (L : List α) : Prop :=
  ∃ (p : Option Addr) (cap : Nat), v = .slice p L.length cap ∧ L.length ≤ 140737488355328 ∧ (p = none → cap = 0) ∧
    ∀ (i : Nat) (x : α), L[i]? = some x → ∃ b off, p = some ⟨b, off, none⟩ ∧ b < w.heap.size ∧ ∀ j, j < k → w.cell? ⟨b, off + i * k + j, none⟩ = (enc x)[j]?
theorem RowsAt.keep {w w' : World} {v : Value} {L : List α} (h : RowsAt enc k w v L) (hb : Below w.heap.size w w') : RowsAt enc k w' v L := by
  obtain ⟨p, cap, hv, hl, hn, hc⟩ := h
  refine ⟨p, cap, hv, hl, hn, fun i x hx => ?_⟩
  obtain ⟨b, off, hp, hlt, h0⟩ := hc i x hx
  exact ⟨b, off, hp, Nat.lt_of_lt_of_le hlt hb.size, fun j hj => (hb.cell (p := ⟨b, _, none⟩) hlt).trans (h0 j hj)⟩
/-- v is the call's own row of the list L -/
def OwnR (enc : α → List Value) (k : Nat) (B : Nat) (e : TypeId) (v : Value) (L : List α) (W0 w : World) : Prop := w.ownsRow B e k v L.length (rcells enc L) ∧ Below B W0 w ∧ B ≤ w.heap.size
variable {B : Nat} {e : TypeId} {v v' : Value} {L L' : List α} {W0 W1 w w' : World}
theorem OwnR.nil (hb : Below B W0 w) (h : B ≤ w.heap.size) : OwnR enc k B e (.slice none 0 0) [] W0 w := ⟨World.ownsRow_nil _ _ _ _, hb, h⟩
theorem OwnR.below (h : OwnR enc k B e v L W0 w) : Below B W0 w := h.2.1
theorem OwnR.cast (h : OwnR enc k B e v L W0 w) (hl : L = L') : OwnR enc k B e v L' W0 w := hl ▸ h
theorem OwnR.alloc (h : OwnR enc k B e v L W0 w) (o : Obj) : OwnR enc k B e v L W0 (w.alloc o) := ⟨h.1.alloc o, h.2.1.alloc h.2.2 o, Nat.le_trans h.2.2 (by simp)⟩
theorem OwnR.drew (h : OwnR enc k B e v L W0 w) : OwnR enc k B e v L W0 w.drew := ⟨h.1, h.2.1.drew, h.2.2⟩
theorem OwnR.grown (h : OwnR enc k B e v L W0 w) (ho : w'.ownsRow B e k v' L'.length (rcells enc L')) (hg : w.grownBy w' v.ownBlock) : OwnR enc k B e v' L' W0 w' :=
  ⟨ho, h.2.1.grown hg h.2.2 (fun k hk => (h.1.lt k hk).1), Nat.le_trans h.2.2 hg.size⟩
theorem OwnR.past (h : OwnR enc k B e v L W0 w) (hb : Below w.heap.size w w') : OwnR enc k B e v L W0 w' := by
  obtain ⟨h1, h2, h3⟩ := h
  refine ⟨⟨h1.1, ?_⟩, h2.trans (hb.mono h3), Nat.le_trans h3 hb.size⟩
  rcases h1.2 with hn | ⟨g, cap, cur, hv, hB, hg, rest⟩
  · exact .inl hn
  · exact .inr ⟨g, cap, cur, hv, hB, by rw [hb.block g (Array.getElem?_eq_some_iff.1 hg).1]; exact hg, rest⟩
theorem OwnR.lower {B' : Nat} (h : OwnR enc k B' e v L W1 w) (hB : B ≤ B') (hb : Below B W0 W1) : OwnR enc k B e v L W0 w := by
  obtain ⟨h1, h2, h3⟩ := h
  refine ⟨⟨h1.1, ?_⟩, hb.trans (h2.mono hB), Nat.le_trans hB h3⟩
  rcases h1.2 with hn | ⟨g, cap, cur, hv, hg, rest⟩
  · exact .inl hn
  · exact .inr ⟨g, cap, cur, hv, Nat.le_trans hB hg, rest⟩
theorem OwnR.isSlice (h : OwnR enc k B e v L W0 w) : ∃ p c, v = .slice p L.length c := by
  rcases h.1.2 with ⟨rfl, hn⟩ | ⟨_, cap, _, rfl, _⟩
  · exact ⟨none, 0, by rw [hn]⟩
  · exact ⟨_, cap, rfl⟩
theorem OwnR.rows (he : Enc enc k) (h : OwnR enc k B e v L W0 w) (hl : L.length ≤ 140737488355328) : RowsAt enc k w v L := by
  obtain ⟨h1, _, _⟩ := h
  rcases h1.2 with ⟨rfl, hn⟩ | ⟨g, cap, cur, rfl, hB, hg, hcap, _, _, htk⟩
  · have : L = [] := List.eq_nil_of_length_eq_zero hn
    subst this
    exact ⟨none, 0, rfl, hl, fun _ => rfl, fun i x hx => by simp at hx⟩
  · refine ⟨some ⟨g, 0, none⟩, cap, rfl, hl, (fun h => by cases h), fun i x hx => ⟨g, 0, rfl, (Array.getElem?_eq_some_iff.1 hg).1, fun j hj => ?_⟩⟩
    have hi := (List.getElem?_eq_some_iff.1 hx).1
    have hlt : i * k + j < L.length * k := by
      have : (i + 1) * k ≤ L.length * k := Nat.mul_le_mul_right k hi
      rw [Nat.succ_mul] at this
      omega
    rw [Nat.zero_add]
    exact (h1.cellAt _ hlt).trans (rcells_at he L i x j hx hj)
end
section
variable {P : Program} {α : Type} {enc : α → List Value} {k : Nat}
/-- one more -/
theorem wpList_own_r (he : Enc enc k) {ops : Array Oper} {rest : List Oper} {o : Oper} {a : Act} {Q : Exit → Act → World → Prop} (hgd : o.guard = none) (s x : Operand) (t : TypeId)
    (ho : o.op = .call { callee := .builtin .append, args := #[s, x], argTypes := #[t, t] })
    (B : Nat) (e : TypeId) (i : TypeInfo) (z : Value) (by' : Nat) (ht : P.underlying t = some (.slice e)) (hi : P.info? e = some i) (hz : i.zero = some z) (hzs : z.cells.size = k) (hsize : i.size = k) (hby : i.bytes = by')
    (v : Value) (L : List α) (hs : a.eval s = v) (W0 w0 : World) (y : α) (cs : Array Value) (hcs : cs = (enc y).toArray) (hb : OwnR enc k B e v L W0 w0)
    (g : Nat) (hx : a.eval x = .slice (some ⟨g, 0, none⟩) 1 1) (hgw : g = w0.heap.size) (hlen : (L.length + 1) * by' ≤ 140737488355328) (hlen2 : L.length + 1 ≤ 1000000)
    (h : ∀ v' w', OwnR enc k B e v' (L ++ [y]) W0 w' → w0.grownBy w' v.ownBlock → wpList P ops Q rest (a.put o.dst v') w') : wpList P ops Q (o :: rest) a (w0.alloc (.cells cs e)) := by
  subst hgw hcs
  have hb' := hb.alloc (.cells (enc y).toArray e)
  have h1 : (rcells enc [y]) = enc y := by simp [rcells]
  refine wpList_append_own _ hgd s x t ho B e i z k by' ht hi hz hsize hby hzs he.pos v L.length (rcells enc L) hs hb'.1 ⟨w0.heap.size, 0, none⟩ 1 1 (rcells enc [y]) hx (by rw [h1, he.len, Nat.one_mul]) ?_ (rcells_one he _) (by unfold maxLen; omega) hlen hb'.2.2 ?_
  · intro j u hj
    rw [Addr.add_lit, Nat.zero_add]
    rw [h1] at hj
    have hg : (w0.alloc (.cells (enc y).toArray e)).heap[w0.heap.size]? = some (.cells (enc y).toArray e (0, 0)) := by
      show (w0.heap.push _)[w0.heap.size]? = _
      simp
    rw [cell_of_row _ _ _ _ _ _ hg]
    simpa using hj
  · intro v' w' ho' hg _
    exact h v' w' (hb'.grown (by rw [rcells_append, List.length_append]; exact ho') hg) (grown_twice (World.grownBy_alloc w0 _ _) hg)
/-- a whole slice more -/
theorem wpList_own_rs (he : Enc enc k) {ops : Array Oper} {rest : List Oper} {o : Oper} {a : Act} {Q : Exit → Act → World → Prop} {w : World} (hgd : o.guard = none) (s x : Operand) (t : TypeId)
    (ho : o.op = .call { callee := .builtin .append, args := #[s, x], argTypes := #[t, t] })
    (B : Nat) (e : TypeId) (i : TypeInfo) (z : Value) (by' : Nat) (ht : P.underlying t = some (.slice e)) (hi : P.info? e = some i) (hz : i.zero = some z) (hzs : z.cells.size = k) (hsize : i.size = k) (hby : i.bytes = by')
    (v : Value) (L : List α) (hs : a.eval s = v) (W0 : World) (M : List α) (vm : Value) (hb : OwnR enc k B e v L W0 w) (hm : RowsAt enc k w vm M)
    (hx : a.eval x = vm) (hlen : (L.length + M.length) * by' ≤ 140737488355328) (hlen2 : L.length + M.length ≤ 1000000)
    (h : ∀ v' w', OwnR enc k B e v' (L ++ M) W0 w' → w.grownBy w' v.ownBlock → wpList P ops Q rest (a.put o.dst v') w') : wpList P ops Q (o :: rest) a w := by
  obtain ⟨p, cap, rfl, hl, hn, hc⟩ := hm
  cases p with
  | none =>
    have : M = [] := by
      cases M with
      | nil => rfl
      | cons y M => obtain ⟨_, _, hp, _⟩ := hc 0 y rfl; cases hp
    subst this
    rw [hn rfl] at hx
    refine wpList_append_own_none hgd s x t ho B e i k ht hi v L.length (rcells enc L) hs hb.1 hx ?_
    exact h v w (hb.cast (by simp)) ⟨rfl, rfl, rfl, Nat.le_refl _, fun _ _ _ => rfl⟩
  | some ad =>
    refine wpList_append_own _ hgd s x t ho B e i z k by' ht hi hz hsize hby hzs he.pos v L.length (rcells enc L) hs hb.1 ad M.length cap (rcells enc M) hx (rcells_length he M) ?_ (rcells_one he _) (by unfold maxLen; omega) hlen hb.2.2 ?_
    · intro j u hj
      have hjl := (List.getElem?_eq_some_iff.1 hj).1
      rw [rcells_length he] at hjl
      have hk := he.pos
      have hr : j % k < k := Nat.mod_lt _ hk
      have hjq : j = j / k * k + j % k := by
        have := Nat.div_add_mod j k
        rw [Nat.mul_comm] at this
        exact this.symm
      have hq : j / k < M.length := Nat.div_lt_of_lt_mul (by rw [Nat.mul_comm]; exact hjl)
      obtain ⟨b, off, hp, _, hcell⟩ := hc (j / k) M[j / k] (List.getElem?_eq_getElem hq)
      cases hp
      rw [Addr.add_lit, hjq, ← Nat.add_assoc, hcell _ hr, ← rcells_at he M _ _ _ (List.getElem?_eq_getElem hq) hr, ← hjq]
      exact hj
    · intro v' w' ho' hg _
      exact h v' w' (hb.grown (by rw [rcells_append, List.length_append]; exact ho') hg) hg
end
end Go.Proofs.Ythjaanhkmfiajac
