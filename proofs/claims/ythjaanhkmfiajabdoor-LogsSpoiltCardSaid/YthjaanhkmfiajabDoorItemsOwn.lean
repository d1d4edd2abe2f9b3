/- A row of items that a call owns, told by a list of items: append of one item, of a whole slice; a field's store. No condition. -/
import Derived.Test.YthjaanhkmfiajabDoorItems
import Derived.Test.YthjaanhkmfiajabDoorBase
import Derived.Laws.AppendOwnNone
namespace Go.Proofs.YthjaanhkmfiajabDoor
open Go.RowKit

/-- the cells of items -/
def icells : List It → List Value
  | [] => []
  | x :: L => .int .i64 x.id :: .string x.data :: .int .i64 x.refs :: icells L
theorem icells_length : ∀ L : List It, (icells L).length = L.length * 3
  | [] => rfl
  | x :: L => by simp only [icells, List.length_cons, icells_length L]; omega
theorem icells_append : ∀ A B : List It, icells (A ++ B) = icells A ++ icells B
  | [], B => rfl
  | x :: A, B => by simp [icells, icells_append A B]
theorem icells_at : ∀ (L : List It) (i : Nat) (x : It), L[i]? = some x → (icells L)[i * 3]? = some (.int .i64 x.id) ∧ (icells L)[i * 3 + 1]? = some (.string x.data) ∧ (icells L)[i * 3 + 2]? = some (.int .i64 x.refs)
  | [], i, x, h => by simp at h
  | y :: L, 0, x, h => by simp at h; subst h; exact ⟨rfl, rfl, rfl⟩
  | y :: L, i + 1, x, h => by
    have := icells_at L i x (by simpa using h)
    rw [show (i + 1) * 3 = i * 3 + 3 by omega]
    exact this
theorem icells_one (L : List It) : ∀ u ∈ icells L, u.oneCell' = true := by
  induction L with
  | nil => intro u h; simp [icells] at h
  | cons x L ih =>
    intro u h
    simp only [icells, List.mem_cons] at h
    rcases h with rfl | rfl | rfl | h
    · rfl
    · rfl
    · rfl
    · exact ih u h

/-- v is the call's own row of the items L -/
def OwnI (B : Nat) (e : TypeId) (v : Value) (L : List It) (W0 w : World) : Prop := w.ownsRow B e 3 v L.length (icells L) ∧ Below B W0 w ∧ B ≤ w.heap.size

theorem OwnI.nil {B : Nat} {e : TypeId} {W0 w : World} (hb : Below B W0 w) (h : B ≤ w.heap.size) : OwnI B e (.slice none 0 0) [] W0 w := ⟨World.ownsRow_nil _ _ _ _, hb, h⟩
theorem OwnI.below {B : Nat} {e : TypeId} {v : Value} {L : List It} {W0 w : World} (h : OwnI B e v L W0 w) : Below B W0 w := h.2.1
theorem OwnI.alloc {B : Nat} {e : TypeId} {v : Value} {L : List It} {W0 w : World} (h : OwnI B e v L W0 w) (o : Obj) : OwnI B e v L W0 (w.alloc o) := ⟨h.1.alloc o, h.2.1.alloc h.2.2 o, Nat.le_trans h.2.2 (by simp)⟩
theorem OwnI.cast {B : Nat} {e : TypeId} {v : Value} {l l' : List It} {W0 w : World} (h : OwnI B e v l W0 w) (hl : l = l') : OwnI B e v l' W0 w := hl ▸ h
theorem OwnI.grown {B : Nat} {e : TypeId} {v v' : Value} {L L' : List It} {W0 w w' : World} (h : OwnI B e v L W0 w) (ho : w'.ownsRow B e 3 v' L'.length (icells L')) (hg : w.grownBy w' v.ownBlock) : OwnI B e v' L' W0 w' :=
  ⟨ho, h.2.1.grown hg h.2.2 (fun k hk => (h.1.lt k hk).1), Nat.le_trans h.2.2 hg.size⟩
theorem OwnI.past {B : Nat} {e : TypeId} {v : Value} {l : List It} {W0 w w' : World} (h : OwnI B e v l W0 w) (hb : Below w.heap.size w w') : OwnI B e v l W0 w' := by
  obtain ⟨h1, h2, h3⟩ := h
  refine ⟨⟨h1.1, ?_⟩, h2.trans (hb.mono h3), Nat.le_trans h3 hb.size⟩
  rcases h1.2 with hn | ⟨g, cap, cur, hv, hB, hg, rest⟩
  · exact .inl hn
  · exact .inr ⟨g, cap, cur, hv, hB, by rw [hb.block g (Array.getElem?_eq_some_iff.1 hg).1]; exact hg, rest⟩
theorem OwnI.drewN {B : Nat} {e : TypeId} {v : Value} {l : List It} {W0 w : World} (h : OwnI B e v l W0 w) (n : Nat) : OwnI B e v l W0 (w.drewN n) := ⟨h.1, below_dr h.2.1 n, h.2.2⟩

theorem OwnI.drew {B : Nat} {e : TypeId} {v : Value} {l : List It} {W0 w : World} (h : OwnI B e v l W0 w) : OwnI B e v l W0 w.drew := ⟨h.1, h.2.1.drew, h.2.2⟩

/-- read as any slice of items -/
theorem OwnI.items {B : Nat} {e : TypeId} {v : Value} {L : List It} {W0 w : World} (h : OwnI B e v L W0 w) (hl : L.length ≤ 140737488355328) : ItemsAt w v L := by
  obtain ⟨h1, _, _⟩ := h
  rcases h1.2 with ⟨rfl, hn⟩ | ⟨g, cap, cur, rfl, hB, hg, hcap, _, _, htk⟩
  · have : L = [] := List.eq_nil_of_length_eq_zero hn
    subst this
    exact ⟨none, 0, rfl, hl, fun _ => rfl, fun i x hx => by simp at hx⟩
  · refine ⟨some ⟨g, 0, none⟩, cap, rfl, hl, (fun h => by cases h), fun i x hx => ⟨g, 0, rfl, (Array.getElem?_eq_some_iff.1 hg).1, ?_⟩⟩
    have hi := (List.getElem?_eq_some_iff.1 hx).1
    obtain ⟨c0, c1, c2⟩ := icells_at L i x hx
    have hat : ∀ j, j < L.length * 3 → w.cell? ⟨g, j, none⟩ = (icells L)[j]? := fun j hj => h1.cellAt j hj
    exact ⟨by rw [Nat.zero_add, hat _ (by omega)]; exact c0, by rw [Nat.zero_add, hat _ (by omega)]; exact c1, by rw [Nat.zero_add, hat _ (by omega)]; exact c2⟩

/-- a row that begins later, seen from earlier -/
theorem OwnI.lower {B B' : Nat} {e : TypeId} {v : Value} {L : List It} {W0 W1 w : World} (h : OwnI B' e v L W1 w) (hB : B ≤ B') (hb : Below B W0 W1) : OwnI B e v L W0 w := by
  obtain ⟨h1, h2, h3⟩ := h
  refine ⟨⟨h1.1, ?_⟩, hb.trans (h2.mono hB), Nat.le_trans hB h3⟩
  rcases h1.2 with hn | ⟨g, cap, cur, hv, hg, rest⟩
  · exact .inl hn
  · exact .inr ⟨g, cap, cur, hv, Nat.le_trans hB hg, rest⟩

theorem OwnI.shape {B : Nat} {e : TypeId} {v : Value} {L : List It} {W0 w : World} (h : OwnI B e v L W0 w) (hne : 0 < L.length) : ∃ g cap, v = .slice (some ⟨g, 0, none⟩) L.length cap ∧ B ≤ g ∧ g < w.heap.size ∧ L.length ≤ cap := by
  rcases h.1.2 with ⟨_, hn⟩ | ⟨g, cap, cur, rfl, hB, hg, hcap, _⟩
  · omega
  · exact ⟨g, cap, rfl, hB, (Array.getElem?_eq_some_iff.1 hg).1, hcap⟩

theorem OwnI.cell {B g cap n : Nat} {e : TypeId} {L : List It} {W0 w : World} (h : OwnI B e (.slice (some ⟨g, 0, none⟩) n cap) L W0 w) {k : Nat} {x : It} (hx : L[k]? = some x) :
    w.cell? ⟨g, k * 3, none⟩ = some (.int .i64 x.id) ∧ w.cell? ⟨g, k * 3 + 1, none⟩ = some (.string x.data) ∧ w.cell? ⟨g, k * 3 + 2, none⟩ = some (.int .i64 x.refs) ∧ (∀ j, w.frozen? ⟨g, j, none⟩ = false) ∧ n = L.length := by
  have hk := (List.getElem?_eq_some_iff.1 hx).1
  have hnL : n = L.length := by
    rcases h.1.2 with ⟨h', _⟩ | ⟨g', cap', cur, h', _⟩
    · cases h'
    · cases h'; rfl
  subst hnL
  obtain ⟨c0, c1, c2⟩ := icells_at L k x hx
  exact ⟨(h.1.cellAt _ (by omega)).trans c0, (h.1.cellAt _ (by omega)).trans c1, (h.1.cellAt _ (by omega)).trans c2, h.1.frozenAt, rfl⟩

theorem icells_set2 : ∀ (L : List It) (k : Nat) (x : It) (r : Int), L[k]? = some x → (icells L).set (k * 3 + 2) (.int .i64 r) = icells (L.set k { x with refs := r })
  | [], k, x, r, h => by simp at h
  | y :: L, 0, x, r, h => by simp at h; subst h; rfl
  | y :: L, k + 1, x, r, h => by
    have := icells_set2 L k x r (by simpa using h)
    rw [show (k + 1) * 3 + 2 = (k * 3 + 2) + 3 by omega]
    simp only [icells, List.set_cons_succ, this]

/-- 'out[k].Refs = r' -/
theorem OwnI.setRefs {B g cap n : Nat} {e : TypeId} {L : List It} {W0 w : World} (h : OwnI B e (.slice (some ⟨g, 0, none⟩) n cap) L W0 w) {k : Nat} {x : It} (hx : L[k]? = some x) (r : Int) :
    OwnI B e (.slice (some ⟨g, 0, none⟩) n cap) (L.set k { x with refs := r }) W0 (w.setCell ⟨g, k * 3 + 2, none⟩ (.int .i64 r)) := by
  obtain ⟨_, _, _, _, rfl⟩ := h.cell hx
  obtain ⟨h1, h2⟩ := h.1.stored (k * 3 + 2) (.int .i64 r)
  rw [icells_set2 L k x r hx] at h1
  have hg : B ≤ g := (h.1.lt g rfl).1
  refine ⟨by rw [List.length_set]; exact h1, h.2.1.setCell (p := ⟨g, _, none⟩) hg _, Nat.le_trans h.2.2 h2.size⟩

section
variable {P : Program}

/-- one item more -/
theorem wpList_own_item {ops : Array Oper} {rest : List Oper} {o : Oper} {a : Act} {Q : Exit → Act → World → Prop} (hgd : o.guard = none) (s x : Operand) (t : TypeId)
    (ho : o.op = .call { callee := .builtin .append, args := #[s, x], argTypes := #[t, t] })
    (B : Nat) (e : TypeId) (i : TypeInfo) (z : Value) (ht : P.underlying t = some (.slice e)) (hi : P.info? e = some i) (hz : i.zero = some z) (hzs : z.cells.size = 3) (hsize : i.size = 3) (hby : i.bytes = 32)
    (v : Value) (L : List It) (hs : a.eval s = v) (W0 w0 : World) (y : It) (hb : OwnI B e v L W0 w0)
    (g : Nat) (hx : a.eval x = .slice (some ⟨g, 0, none⟩) 1 1) (hgw : g = w0.heap.size) (hlen : L.length + 1 ≤ 1000000)
    (h : ∀ v' w', OwnI B e v' (L ++ [y]) W0 w' → wpList P ops Q rest (a.put o.dst v') w') : wpList P ops Q (o :: rest) a (w0.alloc (.cells #[.int .i64 y.id, .string y.data, .int .i64 y.refs] e)) := by
  subst hgw
  have hb' := hb.alloc (.cells #[.int .i64 y.id, .string y.data, .int .i64 y.refs] e)
  refine wpList_append_own _ hgd s x t ho B e i z 3 32 ht hi hz hsize hby hzs (by decide) v L.length (icells L) hs hb'.1 ⟨w0.heap.size, 0, none⟩ 1 1 (icells [y]) hx rfl ?_ (icells_one _) (by unfold maxLen; omega) (by omega) hb'.2.2 ?_
  · intro j u hj
    match j, hj with
    | 0, hj => simp [icells] at hj; subst hj; simp [Addr.add]
    | 1, hj => simp [icells] at hj; subst hj; simp [Addr.add]
    | 2, hj => simp [icells] at hj; subst hj; simp [Addr.add]
    | (j + 3), hj => simp [icells] at hj
  · intro v' w' ho' hg _
    exact h v' w' (hb'.grown (by rw [icells_append, List.length_append]; exact ho') hg)

/-- a whole slice more -/
theorem wpList_own_items {ops : Array Oper} {rest : List Oper} {o : Oper} {a : Act} {Q : Exit → Act → World → Prop} {w : World} (hgd : o.guard = none) (s x : Operand) (t : TypeId)
    (ho : o.op = .call { callee := .builtin .append, args := #[s, x], argTypes := #[t, t] })
    (B : Nat) (e : TypeId) (i : TypeInfo) (z : Value) (ht : P.underlying t = some (.slice e)) (hi : P.info? e = some i) (hz : i.zero = some z) (hzs : z.cells.size = 3) (hsize : i.size = 3) (hby : i.bytes = 32)
    (v : Value) (L : List It) (hs : a.eval s = v) (W0 : World) (M : List It) (vm : Value) (hb : OwnI B e v L W0 w) (hm : ItemsAt w vm M)
    (hx : a.eval x = vm) (hlen : (L.length + M.length) * 32 ≤ 140737488355328)
    (h : ∀ v' w', OwnI B e v' (L ++ M) W0 w' → wpList P ops Q rest (a.put o.dst v') w') : wpList P ops Q (o :: rest) a w := by
  obtain ⟨p, cap, rfl, hl, hn, hc⟩ := hm
  cases p with
  | none =>
    have : M = [] := by
      cases M with
      | nil => rfl
      | cons y M => obtain ⟨_, _, hp, _⟩ := hc 0 y rfl; cases hp
    subst this
    rw [hn rfl] at hx
    refine wpList_append_own_none hgd s x t ho B e i 3 ht hi v L.length (icells L) hs hb.1 hx ?_
    exact h v w (hb.cast (by simp))
  | some ad =>
    refine wpList_append_own _ hgd s x t ho B e i z 3 32 ht hi hz hsize hby hzs (by decide) v L.length (icells L) hs hb.1 ad M.length cap (icells M) hx (icells_length M) ?_ (icells_one _) (by unfold maxLen; omega) hlen hb.2.2 ?_
    · intro j u hj
      have hjl := (List.getElem?_eq_some_iff.1 hj).1
      rw [icells_length] at hjl
      obtain ⟨q, r, hr, hjq⟩ : ∃ q r, r < 3 ∧ j = q * 3 + r := ⟨j / 3, j % 3, by omega, by omega⟩
      have hq : q < M.length := by omega
      obtain ⟨b, off, hp, _, c0, c1, c2⟩ := hc q M[q] (List.getElem?_eq_getElem hq)
      cases hp
      obtain ⟨d0, d1, d2⟩ := icells_at M q M[q] (List.getElem?_eq_getElem hq)
      have ha : ∀ n, (⟨b, off, none⟩ : Addr).add n = ⟨b, off + n, none⟩ := fun n => by unfold Addr.add; split <;> simp_all
      rw [ha, hjq]
      rw [hjq] at hj
      match r, hr with
      | 0, _ => rw [← hj]; exact c0.trans d0.symm
      | 1, _ => rw [← hj]; exact c1.trans d1.symm
      | 2, _ => rw [← hj]; exact c2.trans d2.symm
    · intro v' w' ho' hg _
      exact h v' w' (hb.grown (by rw [icells_append, List.length_append]; exact ho') hg)
end
end Go.Proofs.YthjaanhkmfiajabDoor
