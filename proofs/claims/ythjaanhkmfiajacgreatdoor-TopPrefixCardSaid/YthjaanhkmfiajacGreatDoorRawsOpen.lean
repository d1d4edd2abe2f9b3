/- An argument that is a slice of raw numbers, opened to a list. Condition: its size, as the row's own reach gives it. -/
import Derived.Test.YthjaanhkmfiajacGreatDoorRaws
import Derived.Test.YthjaanhkmfiajacGreatDoorLawEnd
import Derived.Deep.Slices
import Derived.Deep.Strs
import Derived.Lib.SmallJoins
import Derived.SizedLaws
namespace Go.Proofs.YthjaanhkmfiajacGreatDoor
open Go.ChangeShapes Go.WideShapes Go.ChangeAt Go.RowKit Go.Deep

theorem Tryz.rawCells : Tryz.prog.cellsOf 60 = 4 := by kernel_rfl
theorem Tryz.rawBytes : Tryz.prog.bytesOf 60 = 32 := by kernel_rfl
theorem Tryz.intCells4 : Tryz.prog.cellsOf 3 = 1 := by kernel_rfl
instance : Inhabited Rw := ⟨⟨0, 0, 0, 0⟩⟩

section
variable {H : Type} {enc : TypeId × Value → H} {W : World} {base : Nat} {spare : Nat → Bool} {held : Bool}

set_option maxRecDepth 100000 in
theorem open_raw {fuel : Nat} {cs : List Value} {y : DataW H × List MemPlace} (h : DataW.trod enc Tryz.prog W base spare held fuel 60 cs = some y) :
    ∃ x : Rw, cs = [.int .i64 x.kind, .int .i64 x.a, .int .i64 x.b, .int .i64 x.c] ∧ RwOk x := by
  obtain ⟨y0, y1, y2, y3, n, _, hl, h0, h1, h2, h3⟩ := Joins.trod_struct4 Tryz.underlying60 h
  rw [Tryz.rawCells] at hl
  match cs, hl with
  | [c0, c1, c2, c3], _ =>
    simp only [Tryz.intCells4, List.drop_zero, List.take_succ_cons, List.take_zero, List.drop_succ_cons] at h0 h1 h2 h3
    obtain ⟨i, e0, _, w0⟩ := DataW.trod_int Tryz.underlying3 h0
    obtain ⟨a, e1, _, w1⟩ := DataW.trod_int Tryz.underlying3 h1
    obtain ⟨b, e2, _, w2⟩ := DataW.trod_int Tryz.underlying3 h2
    obtain ⟨c, e3, _, w3⟩ := DataW.trod_int Tryz.underlying3 h3
    simp only [List.cons.injEq, and_true] at e0 e1 e2 e3
    subst e0 e1 e2 e3
    exact ⟨⟨i, a, b, c⟩, rfl, ⟨i64_bd w1, i64_bd w2, i64_bd w3, i64_bd w0⟩⟩

set_option maxRecDepth 100000 in
theorem open_rawsB {fuel : Nat} {v : Value} {d : DataW H} {p : List MemPlace} (h : DataW.trod enc Tryz.prog W 0 (fun _ => true) true fuel 22 [v] = some (d, p))
    (hlen : ∀ elems spare, d = .slice elems spare → (elems.length + spare.length) * 32 ≤ 140737488351232) :
    ∃ L : List Rw, RawsAt W v L ∧ (∀ r ∈ L, RwOk r) ∧ L.length * 32 ≤ 140737488351232 := by
  rcases open_slice Tryz.underlying22 h with ⟨hv, _⟩ | ⟨a, len, cap, m, n, D, Pl, hv, hb, hl, hm, hmm, hx, hi⟩
  · simp only [List.cons.injEq, and_true] at hv
    subst hv
    exact ⟨[], ⟨none, 0, rfl, by simp, by omega, fun i x hx => by simp at hx⟩, fun x hx => by simp at hx, by simp⟩
  · simp only [List.cons.injEq, and_true] at hv
    subst hv
    simp only [if_true] at hmm
    subst hmm
    simp only [Prod.mk.injEq] at hx
    obtain ⟨hd, hpl⟩ := hx
    have hbound := hlen _ _ hd
    simp only [List.length_map, List.length_range] at hbound
    obtain ⟨f, hf⟩ := choose_lt (α := Rw) (n := len) (p := fun i x => (W.cell? (a.add (i * 4)) = some (.int .i64 x.kind) ∧ W.cell? (a.add (i * 4 + 1)) = some (.int .i64 x.a) ∧ W.cell? (a.add (i * 4 + 2)) = some (.int .i64 x.b) ∧ W.cell? (a.add (i * 4 + 3)) = some (.int .i64 x.c)) ∧ RwOk x) (fun i hil => by
      obtain ⟨cs', hc, ht⟩ := hi i (by omega)
      rw [Tryz.rawCells] at hc
      obtain ⟨x, rfl, w0⟩ := open_raw ht
      obtain ⟨_, _, hat⟩ := World.cells?_some hc
      have c0 := hat 0 (by omega)
      have c1 := hat 1 (by omega)
      have c2 := hat 2 (by omega)
      have c3 := hat 3 (by omega)
      rw [add_add] at c0 c1 c2 c3
      exact ⟨x, ⟨c0, c1, c2, c3⟩, w0⟩)
    refine ⟨(List.range len).map f, ⟨some a, m, by simp, by simp; omega, by omega, fun i x hx => ?_⟩, fun x hx => ?_, by simp; omega⟩
    · have hil : i < len := by
        have := (List.getElem?_eq_some_iff.1 hx).1
        simpa using this
      simp [hil] at hx
      subst hx
      obtain ⟨⟨c0, c1, c2, c3⟩, _⟩ := hf i hil
      obtain ⟨b, off, spot⟩ := a
      have hspot : spot = none := by simpa [Addr.add] using World.cell?_spot (hf 0 (by omega)).1.1
      subst hspot
      rw [Go.WideShapes.add_plain] at c0 c1 c2 c3
      rw [← Nat.add_assoc] at c1 c2 c3
      refine ⟨b, off, rfl, ?_, c0, c1, c2, c3⟩
      have hbk : W.heap[b]? ≠ none := by
        intro hn
        simp [World.cell?, hn] at c0
      simpa using hbk
    · simp only [List.mem_map, List.mem_range] at hx
      obtain ⟨i, hil, rfl⟩ := hx
      exact (hf i hil).2
theorem open_raws {fuel : Nat} {v : Value} {d : DataW H} {p : List MemPlace} (h : DataW.trod enc Tryz.prog W 0 (fun _ => true) true fuel 22 [v] = some (d, p))
    (hlen : ∀ elems spare, d = .slice elems spare → (elems.length + spare.length) * 32 ≤ 140737488351232) :
    ∃ L : List Rw, RawsAt W v L ∧ ∀ r ∈ L, RwOk r := by
  obtain ⟨L, h1, h2, _⟩ := open_rawsB h hlen
  exact ⟨L, h1, h2⟩
end
end Go.Proofs.YthjaanhkmfiajacGreatDoor
