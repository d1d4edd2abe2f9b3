/- Arguments opened: a slice of integers, a volume. Condition: their sizes, as the row's own reach gives them. -/
import Derived.Test.YtajjhjabehiikabItemsOpen
import Derived.Test.YtajjhjabehiikabInts
namespace Go.Proofs.Ytajjhjabehiikab
open Go.ChangeShapes Go.WideShapes Go.ChangeAt Go.RowKit Go.Deep

theorem Try.intBytes : Try.prog.bytesOf 3 = 8 := by kernel_rfl
theorem Try.slItemCells : Try.prog.cellsOf 22 = 1 := by kernel_rfl
theorem Try.slIntCells : Try.prog.cellsOf 23 = 1 := by kernel_rfl
theorem Try.volCells : Try.prog.cellsOf 25 = 2 := by kernel_rfl

section
variable {H : Type} {enc : TypeId × Value → H} {W : World}

set_option maxRecDepth 100000 in
theorem open_ints' {fuel : Nat} {v : Value} {d : DataW H} {p : List MemPlace} (h : DataW.trod enc Try.prog W 0 (fun _ => true) true fuel 23 [v] = some (d, p))
    (hlen : ∀ elems spare, d = .slice elems spare → (elems.length + spare.length) * 8 ≤ 140737488351232) :
    ∃ Z : List Int, IntsAt W v Z ∧ WideZ Z ∧ Z.length * 8 ≤ 140737488351232 := by
  rcases open_slice Try.underlying23 h with ⟨hv, _⟩ | ⟨a, len, cap, m, n, D, Pl, hv, hb, hl, hm, hmm, hx, hi⟩
  · simp only [List.cons.injEq, and_true] at hv
    subst hv
    exact ⟨[], ⟨none, 0, rfl, by simp, fun _ => rfl, fun i x hx => by simp at hx⟩, fun x hx => by simp at hx, by simp⟩
  · simp only [List.cons.injEq, and_true] at hv
    subst hv
    simp only [if_true] at hmm
    subst hmm
    simp only [Prod.mk.injEq] at hx
    obtain ⟨hd, hpl⟩ := hx
    have hbound := hlen _ _ hd
    simp only [List.length_map, List.length_range] at hbound
    obtain ⟨f, hf⟩ := choose_lt (α := Int) (n := len) (p := fun i x => W.cell? (a.add i) = some (.int .i64 x) ∧ (-9223372036854775808 ≤ x ∧ x ≤ 9223372036854775807)) (fun i hil => by
      obtain ⟨cs', hc, ht⟩ := hi i (by omega)
      rw [Try.intCells] at hc
      obtain ⟨hl1, _, hat⟩ := World.cells?_some hc
      obtain ⟨x, e0, _, w0⟩ := DataW.trod_int Try.underlying3 ht
      subst e0
      have c0 := hat 0 (by omega)
      rw [add_add, Nat.mul_one, Nat.add_zero] at c0
      exact ⟨x, c0, i64_bd w0⟩)
    refine ⟨(List.range len).map f, ⟨some a, m, by simp, by simp; omega, (fun h => by cases h), fun i x hx => ?_⟩, fun x hx => ?_, by simp; omega⟩
    · have hil : i < len := by
        have := (List.getElem?_eq_some_iff.1 hx).1
        simpa using this
      simp [hil] at hx
      subst hx
      obtain ⟨c0, _⟩ := hf i hil
      obtain ⟨b, off, spot⟩ := a
      have hspot : spot = none := by simpa [Addr.add] using World.cell?_spot (hf 0 (by omega)).1
      subst hspot
      rw [Go.WideShapes.add_plain] at c0
      refine ⟨b, off, rfl, ?_, c0⟩
      have hbk : W.heap[b]? ≠ none := by
        intro hn
        simp [World.cell?, hn] at c0
      simpa using hbk
    · simp only [List.mem_map, List.mem_range] at hx
      obtain ⟨i, hil, rfl⟩ := hx
      exact (hf i hil).2

set_option maxRecDepth 100000 in
theorem open_vol {fuel : Nat} {cs : Array Value} {d : DataW H} {p : List MemPlace} (h : DataW.trod enc Try.prog W 0 (fun _ => true) true fuel 25 cs.toList = some (d, p))
    (hlen : ∀ n ∈ d.weights Try.prog 25, n ≤ 140737488351232) :
    ∃ V : Vol, VolAt W (.agg cs) V ∧ Wide V.items ∧ WideZ V.blocks ∧ V.items.length * 32 ≤ 140737488351232 ∧ V.blocks.length * 8 ≤ 140737488351232 := by
  obtain ⟨y0, y1, n, hx, hl, h0, h1⟩ := trod_struct2 Try.underlying25 h
  rw [Try.volCells] at hl
  obtain ⟨xs⟩ := cs
  match xs, hl with
  | [c0, c1], _ =>
    simp only [Try.slItemCells, Try.slIntCells, List.drop_zero, List.take_succ_cons, List.take_zero, List.drop_succ_cons] at h0 h1
    obtain ⟨e0, p0⟩ := y0
    obtain ⟨e1, p1⟩ := y1
    simp only [Prod.mk.injEq] at hx
    obtain ⟨rfl, _⟩ := hx
    obtain ⟨L, hL, hw, hb⟩ := open_items h0 (fun elems spare hd => by
      subst hd
      have := hlen ((elems.length + spare.length) * Try.prog.bytesOf 78) (by simp [DataW.weights, DataW.weightsEach, Try.underlying25, Try.underlying22])
      rw [Try.itemBytes] at this
      exact this)
    obtain ⟨Z, hZ, hwz, hbz⟩ := open_ints' h1 (fun elems spare hd => by
      subst hd
      have := hlen ((elems.length + spare.length) * Try.prog.bytesOf 3) (by simp [DataW.weights, DataW.weightsEach, Try.underlying25, Try.underlying23])
      rw [Try.intBytes] at this
      exact this)
    exact ⟨⟨L, Z⟩, ⟨c0, c1, rfl, hL, hZ⟩, hw, hwz, hb, hbz⟩
end
end Go.Proofs.Ytajjhjabehiikab
