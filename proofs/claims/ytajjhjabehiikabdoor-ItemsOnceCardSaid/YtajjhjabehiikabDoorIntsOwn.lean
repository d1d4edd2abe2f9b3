/- A row of integers that a call owns, told by a list of integers: append of one, of a whole slice; a cell's store. No condition. -/
import Derived.Test.YtajjhjabehiikabDoorInts
import Derived.Test.YtajjhjabehiikabDoorItemsOwn
namespace Go.Proofs.YtajjhjabehiikabDoor
open Go.RowKit

def zcells (Z : List Int) : List Value := Z.map (.int .i64)
theorem zcells_one (Z : List Int) : ∀ u ∈ zcells Z, u.oneCell' = true := by
  intro u h
  obtain ⟨z, _, rfl⟩ := List.mem_map.1 h
  rfl

/-- v is the call's own row of the integers Z -/
def OwnZ (B : Nat) (e : TypeId) (v : Value) (Z : List Int) (W0 w : World) : Prop := w.ownsRow B e 1 v Z.length (zcells Z) ∧ Below B W0 w ∧ B ≤ w.heap.size

theorem OwnZ.nil {B : Nat} {e : TypeId} {W0 w : World} (hb : Below B W0 w) (h : B ≤ w.heap.size) : OwnZ B e (.slice none 0 0) [] W0 w := ⟨World.ownsRow_nil _ _ _ _, hb, h⟩
theorem OwnZ.below {B : Nat} {e : TypeId} {v : Value} {L : List Int} {W0 w : World} (h : OwnZ B e v L W0 w) : Below B W0 w := h.2.1
theorem OwnZ.alloc {B : Nat} {e : TypeId} {v : Value} {L : List Int} {W0 w : World} (h : OwnZ B e v L W0 w) (o : Obj) : OwnZ B e v L W0 (w.alloc o) := ⟨h.1.alloc o, h.2.1.alloc h.2.2 o, Nat.le_trans h.2.2 (by simp)⟩
theorem OwnZ.cast {B : Nat} {e : TypeId} {v : Value} {l l' : List Int} {W0 w : World} (h : OwnZ B e v l W0 w) (hl : l = l') : OwnZ B e v l' W0 w := hl ▸ h
theorem OwnZ.grown {B : Nat} {e : TypeId} {v v' : Value} {L L' : List Int} {W0 w w' : World} (h : OwnZ B e v L W0 w) (ho : w'.ownsRow B e 1 v' L'.length (zcells L')) (hg : w.grownBy w' v.ownBlock) : OwnZ B e v' L' W0 w' :=
  ⟨ho, h.2.1.grown hg h.2.2 (fun k hk => (h.1.lt k hk).1), Nat.le_trans h.2.2 hg.size⟩
theorem OwnZ.past {B : Nat} {e : TypeId} {v : Value} {l : List Int} {W0 w w' : World} (h : OwnZ B e v l W0 w) (hb : Below w.heap.size w w') : OwnZ B e v l W0 w' := by
  obtain ⟨h1, h2, h3⟩ := h
  refine ⟨⟨h1.1, ?_⟩, h2.trans (hb.mono h3), Nat.le_trans h3 hb.size⟩
  rcases h1.2 with hn | ⟨g, cap, cur, hv, hB, hg, rest⟩
  · exact .inl hn
  · exact .inr ⟨g, cap, cur, hv, hB, by rw [hb.block g (Array.getElem?_eq_some_iff.1 hg).1]; exact hg, rest⟩
theorem OwnZ.drewN {B : Nat} {e : TypeId} {v : Value} {l : List Int} {W0 w : World} (h : OwnZ B e v l W0 w) (n : Nat) : OwnZ B e v l W0 (w.drewN n) := ⟨h.1, below_dr h.2.1 n, h.2.2⟩
theorem OwnZ.drew {B : Nat} {e : TypeId} {v : Value} {l : List Int} {W0 w : World} (h : OwnZ B e v l W0 w) : OwnZ B e v l W0 w.drew := ⟨h.1, h.2.1.drew, h.2.2⟩
theorem OwnZ.lower {B B' : Nat} {e : TypeId} {v : Value} {L : List Int} {W0 W1 w : World} (h : OwnZ B' e v L W1 w) (hB : B ≤ B') (hb : Below B W0 W1) : OwnZ B e v L W0 w := by
  obtain ⟨h1, h2, h3⟩ := h
  refine ⟨⟨h1.1, ?_⟩, hb.trans (h2.mono hB), Nat.le_trans hB h3⟩
  rcases h1.2 with hn | ⟨g, cap, cur, hv, hg, rest⟩
  · exact .inl hn
  · exact .inr ⟨g, cap, cur, hv, Nat.le_trans hB hg, rest⟩
theorem OwnZ.shape {B : Nat} {e : TypeId} {v : Value} {L : List Int} {W0 w : World} (h : OwnZ B e v L W0 w) (hne : 0 < L.length) : ∃ g cap, v = .slice (some ⟨g, 0, none⟩) L.length cap ∧ B ≤ g ∧ g < w.heap.size ∧ L.length ≤ cap := by
  rcases h.1.2 with ⟨_, hn⟩ | ⟨g, cap, cur, rfl, hB, hg, hcap, _⟩
  · omega
  · exact ⟨g, cap, rfl, hB, (Array.getElem?_eq_some_iff.1 hg).1, hcap⟩
theorem OwnZ.cell {B g cap n : Nat} {e : TypeId} {L : List Int} {W0 w : World} (h : OwnZ B e (.slice (some ⟨g, 0, none⟩) n cap) L W0 w) {k : Nat} {z : Int} (hx : L[k]? = some z) :
    w.cell? ⟨g, k, none⟩ = some (.int .i64 z) ∧ (∀ j, w.frozen? ⟨g, j, none⟩ = false) ∧ n = L.length := by
  have hk := (List.getElem?_eq_some_iff.1 hx).1
  have hnL : n = L.length := by
    rcases h.1.2 with ⟨h', _⟩ | ⟨g', cap', cur, h', _⟩
    · cases h'
    · cases h'; rfl
  subst hnL
  refine ⟨(h.1.cellAt k (by omega)).trans ?_, h.1.frozenAt, rfl⟩
  unfold zcells
  rw [List.getElem?_map, hx]
  rfl
/-- read as any slice of integers -/
theorem OwnZ.ints {B : Nat} {e : TypeId} {v : Value} {L : List Int} {W0 w : World} (h : OwnZ B e v L W0 w) (hl : L.length ≤ 140737488355328) : IntsAt w v L := by
  have h' := h
  obtain ⟨h1, _, _⟩ := h'
  rcases h1.2 with ⟨rfl, hn⟩ | ⟨g, cap, cur, rfl, hB, hg, hcap, _, _, htk⟩
  · have : L = [] := List.eq_nil_of_length_eq_zero hn
    subst this
    exact ⟨none, 0, rfl, hl, fun _ => rfl, fun i x hx => by simp at hx⟩
  · refine ⟨some ⟨g, 0, none⟩, cap, rfl, hl, (fun h => by cases h), fun i x hx => ⟨g, 0, rfl, (Array.getElem?_eq_some_iff.1 hg).1, ?_⟩⟩
    rw [Nat.zero_add]
    exact (h.cell hx).1
/-- 'out[k] = z' -/
theorem OwnZ.set {B g cap n : Nat} {e : TypeId} {L : List Int} {W0 w : World} (h : OwnZ B e (.slice (some ⟨g, 0, none⟩) n cap) L W0 w) {k : Nat} (hk : k < L.length) (z : Int) :
    OwnZ B e (.slice (some ⟨g, 0, none⟩) n cap) (L.set k z) W0 (w.setCell ⟨g, k, none⟩ (.int .i64 z)) := by
  obtain ⟨_, _, rfl⟩ := h.cell (List.getElem?_eq_getElem hk)
  obtain ⟨h1, h2⟩ := h.1.stored k (.int .i64 z)
  have e1 : (zcells L).set k (.int .i64 z) = zcells (L.set k z) := by unfold zcells; rw [List.map_set]
  rw [e1] at h1
  have hg : B ≤ g := (h.1.lt g rfl).1
  refine ⟨by rw [List.length_set]; exact h1, h.2.1.setCell (p := ⟨g, _, none⟩) hg _, Nat.le_trans h.2.2 h2.size⟩

theorem grown_two {w w1 w2 : World} {row : Option Nat} (h1 : w.grownBy w1 row) (h2 : w1.grownBy w2 row) : w.grownBy w2 row :=
  ⟨h2.os.trans h1.os, h2.tape.trans h1.tape, h2.output.trans h1.output, Nat.le_trans h1.size h2.size, fun k hk hne => (h2.block k (Nat.lt_of_lt_of_le hk h1.size) hne).trans (h1.block k hk hne)⟩

section
variable {P : Program}
theorem wpList_own_int {ops : Array Oper} {rest : List Oper} {o : Oper} {a : Act} {Q : Exit → Act → World → Prop} (hgd : o.guard = none) (s x : Operand) (t : TypeId)
    (ho : o.op = .call { callee := .builtin .append, args := #[s, x], argTypes := #[t, t] })
    (B : Nat) (e : TypeId) (i : TypeInfo) (z : Value) (ht : P.underlying t = some (.slice e)) (hi : P.info? e = some i) (hz : i.zero = some z) (hzs : z.cells.size = 1) (hsize : i.size = 1) (hby : i.bytes = 8)
    (v : Value) (L : List Int) (hs : a.eval s = v) (W0 w0 : World) (y : Int) (hb : OwnZ B e v L W0 w0)
    (g : Nat) (hx : a.eval x = .slice (some ⟨g, 0, none⟩) 1 1) (hgw : g = w0.heap.size) (hlen : L.length + 1 ≤ 1000000)
    (h : ∀ v' w', OwnZ B e v' (L ++ [y]) W0 w' → w0.grownBy w' v.ownBlock → wpList P ops Q rest (a.put o.dst v') w') : wpList P ops Q (o :: rest) a (w0.alloc (.cells #[.int .i64 y] e)) := by
  subst hgw
  have hb' := hb.alloc (.cells #[.int .i64 y] e)
  refine wpList_append_own _ hgd s x t ho B e i z 1 8 ht hi hz hsize hby hzs (by decide) v L.length (zcells L) hs hb'.1 ⟨w0.heap.size, 0, none⟩ 1 1 (zcells [y]) hx rfl ?_ (zcells_one _) (by unfold maxLen; omega) (by omega) hb'.2.2 ?_
  · intro j u hj
    match j, hj with
    | 0, hj => simp [zcells] at hj; subst hj; simp [Addr.add]
    | j + 1, hj => simp [zcells] at hj
  · intro v' w' ho' hg _
    exact h v' w' (hb'.grown (by rw [zcells, List.map_append, List.length_append]; exact ho') hg) (grown_two (World.grownBy_alloc w0 _ _) hg)
theorem wpList_own_ints {ops : Array Oper} {rest : List Oper} {o : Oper} {a : Act} {Q : Exit → Act → World → Prop} {w : World} (hgd : o.guard = none) (s x : Operand) (t : TypeId)
    (ho : o.op = .call { callee := .builtin .append, args := #[s, x], argTypes := #[t, t] })
    (B : Nat) (e : TypeId) (i : TypeInfo) (z : Value) (ht : P.underlying t = some (.slice e)) (hi : P.info? e = some i) (hz : i.zero = some z) (hzs : z.cells.size = 1) (hsize : i.size = 1) (hby : i.bytes = 8)
    (v : Value) (L : List Int) (hs : a.eval s = v) (W0 : World) (M : List Int) (vm : Value) (hb : OwnZ B e v L W0 w) (hm : IntsAt w vm M)
    (hx : a.eval x = vm) (hlen : (L.length + M.length) * 8 ≤ 140737488355328)
    (h : ∀ v' w', OwnZ B e v' (L ++ M) W0 w' → wpList P ops Q rest (a.put o.dst v') w') : wpList P ops Q (o :: rest) a w := by
  obtain ⟨p, cap, rfl, hl, hn, hc⟩ := hm
  cases p with
  | none =>
    have : M = [] := by
      cases M with
      | nil => rfl
      | cons y M => obtain ⟨_, _, hp, _⟩ := hc 0 y rfl; cases hp
    subst this
    rw [hn rfl] at hx
    refine wpList_append_own_none hgd s x t ho B e i 1 ht hi v L.length (zcells L) hs hb.1 hx ?_
    exact h v w (hb.cast (by simp))
  | some ad =>
    refine wpList_append_own _ hgd s x t ho B e i z 1 8 ht hi hz hsize hby hzs (by decide) v L.length (zcells L) hs hb.1 ad M.length cap (zcells M) hx (by simp [zcells]) ?_ (zcells_one _) (by unfold maxLen; omega) hlen hb.2.2 ?_
    · intro j u hj
      unfold zcells at hj
      rw [List.getElem?_map] at hj
      cases hz' : M[j]? with
      | none => rw [hz'] at hj; simp at hj
      | some z' =>
        rw [hz'] at hj
        simp at hj
        subst hj
        obtain ⟨b, off, hp, _, c0⟩ := hc j z' hz'
        cases hp
        rw [Addr.add_lit]
        exact c0
    · intro v' w' ho' hg _
      exact h v' w' (hb.grown (by rw [zcells, List.map_append, List.length_append]; exact ho') hg)
end
end Go.Proofs.YtajjhjabehiikabDoor
