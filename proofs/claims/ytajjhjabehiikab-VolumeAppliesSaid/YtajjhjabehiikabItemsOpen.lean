/- An argument that is a slice of items, opened to a list of items. Condition: its size, as the row's own reach gives it. -/
import Derived.Test.YtajjhjabehiikabItems
import Derived.Test.YtajjhjabehiikabLawEnd
import Derived.Deep.Slices
import Derived.Deep.Strs
import Derived.SizedLaws
namespace Go.Proofs.Ytajjhjabehiikab
open Go.ChangeShapes Go.WideShapes Go.ChangeAt Go.RowKit Go.Deep

theorem Try.itemCells : Try.prog.cellsOf 78 = 3 := by kernel_rfl
theorem Try.itemBytes : Try.prog.bytesOf 78 = 32 := by kernel_rfl
theorem Try.intCells : Try.prog.cellsOf 3 = 1 := by kernel_rfl
theorem Try.strCells : Try.prog.cellsOf 9 = 1 := by kernel_rfl

instance : Inhabited It := ⟨It.zero⟩

section
variable {H : Type} {enc : TypeId × Value → H} {W : World} {base : Nat} {spare : Nat → Bool} {held : Bool}

set_option maxRecDepth 100000 in
/-- the cells of one item -/
theorem open_item {fuel : Nat} {cs : List Value} {y : DataW H × List MemPlace} (h : DataW.trod enc Try.prog W base spare held fuel 78 cs = some y) :
    ∃ x : It, cs = [.int .i64 x.id, .string x.data, .int .i64 x.refs] ∧ (-9223372036854775808 ≤ x.id ∧ x.id ≤ 9223372036854775807) ∧ (-9223372036854775808 ≤ x.refs ∧ x.refs ≤ 9223372036854775807) := by
  obtain ⟨y0, y1, y2, n, _, hl, h0, h1, h2⟩ := trod_struct3 Try.underlying78 h
  rw [Try.itemCells] at hl
  match cs, hl with
  | [c0, c1, c2], _ =>
    simp only [Try.intCells, Try.strCells, List.drop_zero, List.take_succ_cons, List.take_zero, List.drop_succ_cons] at h0 h1 h2
    obtain ⟨i, e0, _, w0⟩ := DataW.trod_int Try.underlying3 h0
    obtain ⟨s, e1, _, _⟩ := DataW.trod_string Try.underlying9 h1
    obtain ⟨r, e2, _, w2⟩ := DataW.trod_int Try.underlying3 h2
    simp only [List.cons.injEq, and_true] at e0 e1 e2
    subst e0 e1 e2
    exact ⟨⟨i, s, r⟩, rfl, i64_bd w0, i64_bd w2⟩

def Wide (L : List It) : Prop := ∀ x ∈ L, (-9223372036854775808 ≤ x.id ∧ x.id ≤ 9223372036854775807) ∧ (-9223372036854775808 ≤ x.refs ∧ x.refs ≤ 9223372036854775807)

theorem open_items {fuel : Nat} {v : Value} {d : DataW H} {p : List MemPlace} (h : DataW.trod enc Try.prog W 0 (fun _ => true) true fuel 22 [v] = some (d, p))
    (hlen : ∀ elems spare, d = .slice elems spare → (elems.length + spare.length) * 32 ≤ 140737488351232) :
    ∃ L : List It, ItemsAt W v L ∧ Wide L ∧ L.length * 32 ≤ 140737488351232 := by
  rcases open_slice Try.underlying22 h with ⟨hv, _⟩ | ⟨a, len, cap, m, n, D, Pl, hv, hb, hl, hm, hmm, hx, hi⟩
  · simp only [List.cons.injEq, and_true] at hv
    subst hv
    exact ⟨[], ⟨none, 0, rfl, by simp, fun _ => rfl, fun i x hx => by simp at hx⟩, fun x hx => by simp at hx, by simp⟩
  · simp only [List.cons.injEq, and_true] at hv
    subst hv
    simp only [if_true] at hmm
    subst hmm
    simp only [Prod.mk.injEq] at hx
    obtain ⟨hd, hpl⟩ := hx
    have hbound := hlen _ _ hd
    simp only [List.length_map, List.length_range] at hbound
    obtain ⟨f, hf⟩ := choose_lt (α := It) (n := len) (p := fun i x => (W.cell? (a.add (i * 3)) = some (.int .i64 x.id) ∧ W.cell? (a.add (i * 3 + 1)) = some (.string x.data) ∧ W.cell? (a.add (i * 3 + 2)) = some (.int .i64 x.refs)) ∧ (-9223372036854775808 ≤ x.id ∧ x.id ≤ 9223372036854775807) ∧ (-9223372036854775808 ≤ x.refs ∧ x.refs ≤ 9223372036854775807)) (fun i hil => by
      obtain ⟨cs', hc, ht⟩ := hi i (by omega)
      rw [Try.itemCells] at hc
      obtain ⟨x, rfl, w0, w2⟩ := open_item ht
      obtain ⟨_, _, hat⟩ := World.cells?_some hc
      have c0 := hat 0 (by omega)
      have c1 := hat 1 (by omega)
      have c2 := hat 2 (by omega)
      rw [add_add] at c0 c1 c2
      exact ⟨x, ⟨c0, c1, c2⟩, w0, w2⟩)
    refine ⟨(List.range len).map f, ⟨some a, m, by simp, by simp; omega, (fun h => by cases h), fun i x hx => ?_⟩, fun x hx => ?_, by simp; omega⟩
    · have hil : i < len := by
        have := (List.getElem?_eq_some_iff.1 hx).1
        simpa using this
      simp [hil] at hx
      subst hx
      obtain ⟨⟨c0, c1, c2⟩, _⟩ := hf i hil
      obtain ⟨b, off, spot⟩ := a
      have hspot : spot = none := by simpa [Addr.add] using World.cell?_spot (hf 0 (by omega)).1.1
      subst hspot
      rw [Go.WideShapes.add_plain] at c0 c1 c2
      refine ⟨b, off, rfl, ?_, c0, by rw [← Nat.add_assoc] at c1; exact c1, by rw [← Nat.add_assoc] at c2; exact c2⟩
      have hbk : W.heap[b]? ≠ none := by
        intro hn
        simp [World.cell?, hn] at c0
      simpa using hbk
    · simp only [List.mem_map, List.mem_range] at hx
      obtain ⟨i, hil, rfl⟩ := hx
      exact (hf i hil).2
end
end Go.Proofs.Ytajjhjabehiikab
