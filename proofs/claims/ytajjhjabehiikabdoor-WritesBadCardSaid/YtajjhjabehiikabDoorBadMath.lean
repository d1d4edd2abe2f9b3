/- Writes that may not be, as plain data: what CheckWrites says of them; how they lie in memory. No program's run. -/
import Derived.Test.YtajjhjabehiikabDoorPure
import Derived.Laws.MakeOwn
import Derived.Laws.CopyRow
import Derived.KernelRfl
namespace Go.Proofs.YtajjhjabehiikabDoor
open Go Go.RowKit

/-- the five lists of the statement -/
def odd (k : Nat) (d : ByteArray) : Nat → List Wr
  | 0 => List.replicate 13 ⟨0, ⟨#[]⟩⟩
  | 1 => [⟨16 + (k : Int), ⟨#[]⟩⟩]
  | 2 => [⟨-1 - (k : Int), ⟨#[]⟩⟩]
  | 3 => [⟨(k : Int), ⟨#[]⟩⟩, ⟨(k : Int), ⟨#[]⟩⟩]
  | _ => [⟨(k : Int), d⟩]
def oddErr : Nat → Int
  | 0 => 1
  | 1 => 6
  | 2 => 6
  | 3 => 4
  | _ => 1
theorem odd_fault {k : Nat} (hk : k < 16) {d : ByteArray} (hd : d.size = 49) (i : Nat) : wFault (odd k d i) 16 = oddErr i := by
  have hz : (⟨#[]⟩ : ByteArray).size = 0 := rfl
  match i with
  | 0 => rfl
  | 1 =>
    show wFault [⟨16 + (k : Int), ⟨#[]⟩⟩] 16 = 6
    have h1 : ¬ (0 ≤ 16 + (k : Int) ∧ 16 + (k : Int) ≤ 16 - 1) := by omega
    simp only [wFault, wRest, wOne, List.length_singleton, if_pos h1]
    simp
  | 2 =>
    show wFault [⟨-1 - (k : Int), ⟨#[]⟩⟩] 16 = 6
    have h1 : ¬ (0 ≤ -1 - (k : Int) ∧ -1 - (k : Int) ≤ 16 - 1) := by omega
    simp only [wFault, wRest, wOne, List.length_singleton, if_pos h1]
    simp
  | 3 =>
    show wFault [⟨(k : Int), ⟨#[]⟩⟩, ⟨(k : Int), ⟨#[]⟩⟩] 16 = 4
    have h1 : ¬ ¬ (0 ≤ (k : Int) ∧ (k : Int) ≤ 16 - 1) := by omega
    simp only [wFault, wRest, wOne, List.length_cons, List.length_nil, if_neg h1, hz]
    simp
  | i + 4 =>
    show wFault [⟨(k : Int), d⟩] 16 = 1
    have h1 : ¬ ¬ (0 ≤ (k : Int) ∧ (k : Int) ≤ 16 - 1) := by omega
    simp only [wFault, wRest, wOne, List.length_singleton, if_neg h1, hd]
    simp
theorem oddErr_ne (i : Nat) : oddErr i ≠ 0 := by
  match i with
  | 0 => decide
  | 1 => decide
  | 2 => decide
  | 3 => decide
  | i + 4 => show (1 : Int) ≠ 0; decide

/-! ### how they lie -/
theorem writes_new {w : World} {cs : Array Value} {T : TypeId} {L : List Wr} (hl : L.length ≤ 1000) (h : ∀ (i : Nat) (x : Wr), L[i]? = some x → cs[i * 2]? = some (.int .i64 x.block) ∧ cs[i * 2 + 1]? = some (.string x.data)) :
    WritesAt (w.alloc (.cells cs T)) (.slice (some ⟨w.heap.size, 0, none⟩) L.length L.length) L := by
  refine ⟨_, _, rfl, by omega, (fun h => by cases h), fun i x hx => ⟨w.heap.size, 0, rfl, by simp, ?_⟩⟩
  have hg : (w.alloc (.cells cs T)).heap[w.heap.size]? = some (.cells cs T (0, 0)) := by
    show (w.heap.push _)[w.heap.size]? = _
    simp
  obtain ⟨h0, h1⟩ := h i x hx
  refine ⟨?_, ?_⟩
  · rw [Nat.zero_add]; exact (cell_of_row _ _ _ cs T (0, 0) hg).trans h0
  · rw [Nat.zero_add]; exact (cell_of_row _ _ _ cs T (0, 0) hg).trans h1
theorem writes_one (w : World) (T : TypeId) (x : Wr) : WritesAt (w.alloc (.cells #[.int .i64 x.block, .string x.data] T)) (.slice (some ⟨w.heap.size, 0, none⟩) 1 1) [x] :=
  writes_new (L := [x]) (by simp) (fun i y hy => by
    match i, hy with
    | 0, hy => simp at hy; subst hy; exact ⟨rfl, rfl⟩
    | i + 1, hy => simp at hy)
theorem writes_two (w : World) (T : TypeId) (x y : Wr) : WritesAt (w.alloc (.cells #[.int .i64 x.block, .string x.data, .int .i64 y.block, .string y.data] T)) (.slice (some ⟨w.heap.size, 0, none⟩) 2 2) [x, y] :=
  writes_new (L := [x, y]) (by simp) (fun i z hz => by
    match i, hz with
    | 0, hz => simp at hz; subst hz; exact ⟨rfl, rfl⟩
    | 1, hz => simp at hz; subst hz; exact ⟨rfl, rfl⟩
    | i + 2, hz => simp at hz)
theorem made13 : madeCells (Value.agg #[.int .i64 0, .string ⟨#[]⟩]).cells 26 = (List.flatten (List.replicate 13 [Value.int .i64 0, .string ⟨#[]⟩])).toArray := by kernel_rfl
theorem writes_13 (w : World) (T : TypeId) : WritesAt (w.alloc (.cells (List.flatten (List.replicate 13 [Value.int .i64 0, .string ⟨#[]⟩])).toArray T)) (.slice (some ⟨w.heap.size, 0, none⟩) 13 13) (List.replicate 13 ⟨0, ⟨#[]⟩⟩) :=
  writes_new (L := List.replicate 13 ⟨0, ⟨#[]⟩⟩) (by simp) (fun i x hx => by
    have hi : i < 13 := by have := (List.getElem?_eq_some_iff.1 hx).1; simpa using this
    have hxe : x = ⟨0, ⟨#[]⟩⟩ := by rw [List.getElem?_replicate, if_pos hi] at hx; exact (Option.some.inj hx).symm
    subst hxe
    match i, hi with
    | 0, _ => exact ⟨rfl, rfl⟩
    | 1, _ => exact ⟨rfl, rfl⟩
    | 2, _ => exact ⟨rfl, rfl⟩
    | 3, _ => exact ⟨rfl, rfl⟩
    | 4, _ => exact ⟨rfl, rfl⟩
    | 5, _ => exact ⟨rfl, rfl⟩
    | 6, _ => exact ⟨rfl, rfl⟩
    | 7, _ => exact ⟨rfl, rfl⟩
    | 8, _ => exact ⟨rfl, rfl⟩
    | 9, _ => exact ⟨rfl, rfl⟩
    | 10, _ => exact ⟨rfl, rfl⟩
    | 11, _ => exact ⟨rfl, rfl⟩
    | 12, _ => exact ⟨rfl, rfl⟩)

def SliceOf (n : Nat) (v : Value) : Prop := ∃ b, v = .slice (some ⟨b, 0, none⟩) n n
/-- block of five slices, the lists -/
def OddAt (k : Nat) (v : Value) (w : World) : Prop :=
  ∃ b d, v = .slice (some ⟨b, 0, none⟩) 5 5 ∧ b < w.heap.size ∧ d.size = 49 ∧ ∀ i, i < 5 → ∃ u, w.cell? ⟨b, i, none⟩ = some u ∧ SliceOf (odd k d i).length u ∧ WritesAt w u (odd k d i)
theorem OddAt.keep {k : Nat} {v : Value} {w w' : World} (h : OddAt k v w) (hb : Below w.heap.size w w') : OddAt k v w' := by
  obtain ⟨b, d, hv, hlt, hd, hc⟩ := h
  refine ⟨b, d, hv, Nat.lt_of_lt_of_le hlt hb.size, hd, fun i hi => ?_⟩
  obtain ⟨u, h1, h2, h3⟩ := hc i hi
  exact ⟨u, (hb.cell (p := ⟨b, i, none⟩) hlt).trans h1, h2, h3.keep hb⟩

theorem odd_new {k : Nat} {d : ByteArray} {w : World} {u0 u1 u2 u3 u4 : Value} {T : TypeId} (hd : d.size = 49)
    (h0 : SliceOf 13 u0 ∧ WritesAt w u0 (List.replicate 13 ⟨0, ⟨#[]⟩⟩)) (h1 : SliceOf 1 u1 ∧ WritesAt w u1 [⟨16 + (k : Int), ⟨#[]⟩⟩]) (h2 : SliceOf 1 u2 ∧ WritesAt w u2 [⟨-1 - (k : Int), ⟨#[]⟩⟩])
    (h3 : SliceOf 2 u3 ∧ WritesAt w u3 [⟨(k : Int), ⟨#[]⟩⟩, ⟨(k : Int), ⟨#[]⟩⟩]) (h4 : SliceOf 1 u4 ∧ WritesAt w u4 [⟨(k : Int), d⟩]) :
    OddAt k (.slice (some ⟨w.heap.size, 0, none⟩) 5 5) (w.alloc (.cells #[u0, u1, u2, u3, u4] T)) := by
  have hg : (w.alloc (.cells #[u0, u1, u2, u3, u4] T)).heap[w.heap.size]? = some (.cells #[u0, u1, u2, u3, u4] T (0, 0)) := by
    show (w.heap.push _)[w.heap.size]? = _
    simp
  have hb := below_alloc (Below.refl w.heap.size w) (.cells #[u0, u1, u2, u3, u4] T)
  refine ⟨_, d, rfl, by simp, hd, fun i hi => ?_⟩
  have hc := fun j => cell_of_row (w.alloc (.cells #[u0, u1, u2, u3, u4] T)) w.heap.size j #[u0, u1, u2, u3, u4] T (0, 0) hg
  match i, hi with
  | 0, _ => exact ⟨u0, hc 0, h0.1, h0.2.keep hb⟩
  | 1, _ => exact ⟨u1, hc 1, h1.1, h1.2.keep hb⟩
  | 2, _ => exact ⟨u2, hc 2, h2.1, h2.2.keep hb⟩
  | 3, _ => exact ⟨u3, hc 3, h3.1, h3.2.keep hb⟩
  | 4, _ => exact ⟨u4, hc 4, h4.1, h4.2.keep hb⟩

/-- what operation j of the region has given -/
def Spec (k : Nat) (j : Nat) (v : Value) (w : World) : Prop :=
  match j with
  | 0 => SliceOf 13 v ∧ WritesAt w v (List.replicate 13 ⟨0, ⟨#[]⟩⟩)
  | 1 => v = .int .i64 (k : Int)
  | 2 => v = .int .i64 (16 + (k : Int))
  | 3 => v = .agg #[.int .i64 (16 + (k : Int)), .string ⟨#[]⟩]
  | 4 => SliceOf 1 v ∧ WritesAt w v [⟨16 + (k : Int), ⟨#[]⟩⟩]
  | 5 => v = .int .i64 (k : Int)
  | 6 => v = .int .i64 (-1 - (k : Int))
  | 7 => v = .agg #[.int .i64 (-1 - (k : Int)), .string ⟨#[]⟩]
  | 8 => SliceOf 1 v ∧ WritesAt w v [⟨-1 - (k : Int), ⟨#[]⟩⟩]
  | 9 => v = .int .i64 (k : Int)
  | 10 => v = .agg #[.int .i64 (k : Int), .string ⟨#[]⟩]
  | 11 => v = .int .i64 (k : Int)
  | 12 => v = .agg #[.int .i64 (k : Int), .string ⟨#[]⟩]
  | 13 => SliceOf 2 v ∧ WritesAt w v [⟨(k : Int), ⟨#[]⟩⟩, ⟨(k : Int), ⟨#[]⟩⟩]
  | 14 => v = .int .i64 (k : Int)
  | 15 => ∃ d : ByteArray, d.size = 49 ∧ v = .string d
  | 16 => ∃ d : ByteArray, d.size = 49 ∧ v = .agg #[.int .i64 (k : Int), .string d]
  | 17 => ∃ d : ByteArray, d.size = 49 ∧ SliceOf 1 v ∧ WritesAt w v [⟨(k : Int), d⟩]
  | 18 => OddAt k v w
  | 19 => OddAt k v w
  | _ => True
theorem Spec.keep {k j : Nat} {v : Value} {w w' : World} (h : Spec k j v w) (hb : Below w.heap.size w w') : Spec k j v w' := by
  match j, h with
  | 0, h => exact ⟨h.1, h.2.keep hb⟩
  | 1, h => exact h
  | 2, h => exact h
  | 3, h => exact h
  | 4, h => exact ⟨h.1, h.2.keep hb⟩
  | 5, h => exact h
  | 6, h => exact h
  | 7, h => exact h
  | 8, h => exact ⟨h.1, h.2.keep hb⟩
  | 9, h => exact h
  | 10, h => exact h
  | 11, h => exact h
  | 12, h => exact h
  | 13, h => exact ⟨h.1, h.2.keep hb⟩
  | 14, h => exact h
  | 15, h => exact h
  | 16, h => exact h
  | 17, h => obtain ⟨d, h1, h2, h3⟩ := h; exact ⟨d, h1, h2, h3.keep hb⟩
  | 18, h => exact OddAt.keep h hb
  | 19, h => exact OddAt.keep h hb
  | j + 20, _ => exact True.intro
def updV (vals : Nat → Value) (i : Nat) (v : Value) : Nat → Value := fun j => if j = i then v else vals j
def SpecAll (k : Nat) (listed : Array Bool) (vals : Nat → Value) (w : World) : Prop := ∀ j, listed.getD j false = true → Spec k j (vals j) w
theorem SpecAll.step {k : Nat} {listed : Array Bool} {vals : Nat → Value} {w w' : World} {i : Nat} {v : Value} (h : SpecAll k listed vals w) (hb : Below w.heap.size w w') (hn : Spec k i v w') : SpecAll k (listed.setIfInBounds i true) (updV vals i v) w' := by
  intro j hj
  unfold updV
  by_cases he : j = i
  · subst he
    rw [if_pos rfl]
    exact hn
  · rw [if_neg he]
    refine (h j ?_).keep hb
    rw [Array.getD_eq_getD_getElem?, Array.getElem?_setIfInBounds_ne (fun e => he e.symm), ← Array.getD_eq_getD_getElem?] at hj
    exact hj
end Go.Proofs.YtajjhjabehiikabDoor
