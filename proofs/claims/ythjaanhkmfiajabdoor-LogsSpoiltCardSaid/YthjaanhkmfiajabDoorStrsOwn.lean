/- A row of strings that a call owns, told by a list of strings: append of one; a cell's store. No condition. -/
import Derived.Test.YthjaanhkmfiajabDoorItems
import Derived.Test.YthjaanhkmfiajabDoorBase
import Derived.Test.YthjaanhkmfiajabDoorItemsOwn
namespace Go.Proofs.YthjaanhkmfiajabDoor
open Go.RowKit

/-- the slice value v holds the strings Z -/
def StrsAt (w : World) (v : Value) (Z : List ByteArray) : Prop :=
  ∃ (p : Option Addr) (cap : Nat), v = .slice p Z.length cap ∧ Z.length ≤ 140737488355328 ∧ (p = none → cap = 0) ∧
    ∀ (i : Nat) (z : ByteArray), Z[i]? = some z → ∃ b off, p = some ⟨b, off, none⟩ ∧ b < w.heap.size ∧ w.cell? ⟨b, off + i, none⟩ = some (.string z)
theorem StrsAt.keep {w w' : World} {v : Value} {Z : List ByteArray} (h : StrsAt w v Z) (hb : Below w.heap.size w w') : StrsAt w' v Z := by
  obtain ⟨p, cap, hv, hl, hn, hc⟩ := h
  refine ⟨p, cap, hv, hl, hn, fun i x hx => ?_⟩
  obtain ⟨b, off, hp, hlt, h0⟩ := hc i x hx
  exact ⟨b, off, hp, Nat.lt_of_lt_of_le hlt hb.size, (hb.cell (p := ⟨b, _, none⟩) hlt).trans h0⟩

def scells (Z : List ByteArray) : List Value := Z.map .string
theorem scells_one (Z : List ByteArray) : ∀ u ∈ scells Z, u.oneCell' = true := by
  intro u h
  obtain ⟨z, _, rfl⟩ := List.mem_map.1 h
  rfl

/-- v is the call's own row of the strings Z -/
def OwnS (B : Nat) (e : TypeId) (v : Value) (Z : List ByteArray) (W0 w : World) : Prop := w.ownsRow B e 1 v Z.length (scells Z) ∧ Below B W0 w ∧ B ≤ w.heap.size

theorem OwnS.nil {B : Nat} {e : TypeId} {W0 w : World} (hb : Below B W0 w) (h : B ≤ w.heap.size) : OwnS B e (.slice none 0 0) [] W0 w := ⟨World.ownsRow_nil _ _ _ _, hb, h⟩
theorem OwnS.below {B : Nat} {e : TypeId} {v : Value} {L : List ByteArray} {W0 w : World} (h : OwnS B e v L W0 w) : Below B W0 w := h.2.1
theorem OwnS.alloc {B : Nat} {e : TypeId} {v : Value} {L : List ByteArray} {W0 w : World} (h : OwnS B e v L W0 w) (o : Obj) : OwnS B e v L W0 (w.alloc o) := ⟨h.1.alloc o, h.2.1.alloc h.2.2 o, Nat.le_trans h.2.2 (by simp)⟩
theorem OwnS.cast {B : Nat} {e : TypeId} {v : Value} {l l' : List ByteArray} {W0 w : World} (h : OwnS B e v l W0 w) (hl : l = l') : OwnS B e v l' W0 w := hl ▸ h
theorem OwnS.grown {B : Nat} {e : TypeId} {v v' : Value} {L L' : List ByteArray} {W0 w w' : World} (h : OwnS B e v L W0 w) (ho : w'.ownsRow B e 1 v' L'.length (scells L')) (hg : w.grownBy w' v.ownBlock) : OwnS B e v' L' W0 w' :=
  ⟨ho, h.2.1.grown hg h.2.2 (fun k hk => (h.1.lt k hk).1), Nat.le_trans h.2.2 hg.size⟩
theorem OwnS.past {B : Nat} {e : TypeId} {v : Value} {l : List ByteArray} {W0 w w' : World} (h : OwnS B e v l W0 w) (hb : Below w.heap.size w w') : OwnS B e v l W0 w' := by
  obtain ⟨h1, h2, h3⟩ := h
  refine ⟨⟨h1.1, ?_⟩, h2.trans (hb.mono h3), Nat.le_trans h3 hb.size⟩
  rcases h1.2 with hn | ⟨g, cap, cur, hv, hB, hg, rest⟩
  · exact .inl hn
  · exact .inr ⟨g, cap, cur, hv, hB, by rw [hb.block g (Array.getElem?_eq_some_iff.1 hg).1]; exact hg, rest⟩
theorem OwnS.drewN {B : Nat} {e : TypeId} {v : Value} {l : List ByteArray} {W0 w : World} (h : OwnS B e v l W0 w) (n : Nat) : OwnS B e v l W0 (w.drewN n) := ⟨h.1, below_dr h.2.1 n, h.2.2⟩
theorem OwnS.drew {B : Nat} {e : TypeId} {v : Value} {l : List ByteArray} {W0 w : World} (h : OwnS B e v l W0 w) : OwnS B e v l W0 w.drew := ⟨h.1, h.2.1.drew, h.2.2⟩
theorem OwnS.lower {B B' : Nat} {e : TypeId} {v : Value} {L : List ByteArray} {W0 W1 w : World} (h : OwnS B' e v L W1 w) (hB : B ≤ B') (hb : Below B W0 W1) : OwnS B e v L W0 w := by
  obtain ⟨h1, h2, h3⟩ := h
  refine ⟨⟨h1.1, ?_⟩, hb.trans (h2.mono hB), Nat.le_trans hB h3⟩
  rcases h1.2 with hn | ⟨g, cap, cur, hv, hg, rest⟩
  · exact .inl hn
  · exact .inr ⟨g, cap, cur, hv, Nat.le_trans hB hg, rest⟩
theorem OwnS.shape {B : Nat} {e : TypeId} {v : Value} {L : List ByteArray} {W0 w : World} (h : OwnS B e v L W0 w) (hne : 0 < L.length) : ∃ g cap, v = .slice (some ⟨g, 0, none⟩) L.length cap ∧ B ≤ g ∧ g < w.heap.size ∧ L.length ≤ cap := by
  rcases h.1.2 with ⟨_, hn⟩ | ⟨g, cap, cur, rfl, hB, hg, hcap, _⟩
  · omega
  · exact ⟨g, cap, rfl, hB, (Array.getElem?_eq_some_iff.1 hg).1, hcap⟩
theorem OwnS.cell {B g cap n : Nat} {e : TypeId} {L : List ByteArray} {W0 w : World} (h : OwnS B e (.slice (some ⟨g, 0, none⟩) n cap) L W0 w) {k : Nat} {z : ByteArray} (hx : L[k]? = some z) :
    w.cell? ⟨g, k, none⟩ = some (.string z) ∧ (∀ j, w.frozen? ⟨g, j, none⟩ = false) ∧ n = L.length := by
  have hk := (List.getElem?_eq_some_iff.1 hx).1
  have hnL : n = L.length := by
    rcases h.1.2 with ⟨h', _⟩ | ⟨g', cap', cur, h', _⟩
    · cases h'
    · cases h'; rfl
  subst hnL
  refine ⟨(h.1.cellAt k (by omega)).trans ?_, h.1.frozenAt, rfl⟩
  unfold scells
  rw [List.getElem?_map, hx]
  rfl
/-- read as any slice of strings -/
theorem OwnS.ints {B : Nat} {e : TypeId} {v : Value} {L : List ByteArray} {W0 w : World} (h : OwnS B e v L W0 w) (hl : L.length ≤ 140737488355328) : StrsAt w v L := by
  have h' := h
  obtain ⟨h1, _, _⟩ := h'
  rcases h1.2 with ⟨rfl, hn⟩ | ⟨g, cap, cur, rfl, hB, hg, hcap, _, _, htk⟩
  · have : L = [] := List.eq_nil_of_length_eq_zero hn
    subst this
    exact ⟨none, 0, rfl, hl, fun _ => rfl, fun i x hx => by simp at hx⟩
  · refine ⟨some ⟨g, 0, none⟩, cap, rfl, hl, (fun h => by cases h), fun i x hx => ⟨g, 0, rfl, (Array.getElem?_eq_some_iff.1 hg).1, ?_⟩⟩
    rw [Nat.zero_add]
    exact (h.cell hx).1
/-- 'out[k] = z' -/
theorem OwnS.set {B g cap n : Nat} {e : TypeId} {L : List ByteArray} {W0 w : World} (h : OwnS B e (.slice (some ⟨g, 0, none⟩) n cap) L W0 w) {k : Nat} (hk : k < L.length) (z : ByteArray) :
    OwnS B e (.slice (some ⟨g, 0, none⟩) n cap) (L.set k z) W0 (w.setCell ⟨g, k, none⟩ (.string z)) := by
  obtain ⟨_, _, rfl⟩ := h.cell (List.getElem?_eq_getElem hk)
  obtain ⟨h1, h2⟩ := h.1.stored k (.string z)
  have e1 : (scells L).set k (.string z) = scells (L.set k z) := by unfold scells; rw [List.map_set]
  rw [e1] at h1
  have hg : B ≤ g := (h.1.lt g rfl).1
  refine ⟨by rw [List.length_set]; exact h1, h.2.1.setCell (p := ⟨g, _, none⟩) hg _, Nat.le_trans h.2.2 h2.size⟩

theorem grown_twice {w w1 w2 : World} {row : Option Nat} (h1 : w.grownBy w1 row) (h2 : w1.grownBy w2 row) : w.grownBy w2 row :=
  ⟨h2.os.trans h1.os, h2.tape.trans h1.tape, h2.output.trans h1.output, Nat.le_trans h1.size h2.size, fun k hk hne => (h2.block k (Nat.lt_of_lt_of_le hk h1.size) hne).trans (h1.block k hk hne)⟩

section
variable {P : Program}
theorem wpList_own_str {ops : Array Oper} {rest : List Oper} {o : Oper} {a : Act} {Q : Exit → Act → World → Prop} (hgd : o.guard = none) (s x : Operand) (t : TypeId)
    (ho : o.op = .call { callee := .builtin .append, args := #[s, x], argTypes := #[t, t] })
    (B : Nat) (e : TypeId) (i : TypeInfo) (z : Value) (ht : P.underlying t = some (.slice e)) (hi : P.info? e = some i) (hz : i.zero = some z) (hzs : z.cells.size = 1) (hsize : i.size = 1) (hby : i.bytes = 16)
    (v : Value) (L : List ByteArray) (hs : a.eval s = v) (W0 w0 : World) (y : ByteArray) (hb : OwnS B e v L W0 w0)
    (g : Nat) (hx : a.eval x = .slice (some ⟨g, 0, none⟩) 1 1) (hgw : g = w0.heap.size) (hlen : (L.length + 1) * 16 ≤ 140737488355328)
    (h : ∀ v' w', OwnS B e v' (L ++ [y]) W0 w' → w0.grownBy w' v.ownBlock → wpList P ops Q rest (a.put o.dst v') w') : wpList P ops Q (o :: rest) a (w0.alloc (.cells #[.string y] e)) := by
  subst hgw
  have hb' := hb.alloc (.cells #[.string y] e)
  refine wpList_append_own _ hgd s x t ho B e i z 1 16 ht hi hz hsize hby hzs (by decide) v L.length (scells L) hs hb'.1 ⟨w0.heap.size, 0, none⟩ 1 1 (scells [y]) hx rfl ?_ (scells_one _) (by unfold maxLen; omega) hlen hb'.2.2 ?_
  · intro j u hj
    match j, hj with
    | 0, hj => simp [scells] at hj; subst hj; simp [Addr.add]
    | j + 1, hj => simp [scells] at hj
  · intro v' w' ho' hg _
    exact h v' w' (hb'.grown (by rw [scells, List.map_append, List.length_append]; exact ho') hg) (grown_twice (World.grownBy_alloc w0 _ _) hg)
end
end Go.Proofs.YthjaanhkmfiajabDoor
