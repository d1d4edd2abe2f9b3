/- A row of writes that a call owns, told by a list of writes: append of one (alone, and as a step of a region that draws), a write's store; sorting of at most twelve. No condition but those in the statements. -/
import Derived.Test.YthjaanhkmfiajabDoorWrites
import Derived.Test.YthjaanhkmfiajabDoorBase
import Derived.Test.YthjaanhkmfiajabDoorRows
import Derived.Laws.AppendOwnNone
import Derived.Deep.RegionLaw
import Derived.BigQuiet
import Derived.BigRegion
import Derived.IntWalk
import Derived.Lib.Hide
namespace Go.Proofs.YthjaanhkmfiajabDoor
open Go.RowKit

def wcells : List Wr → List Value
  | [] => []
  | x :: L => .int .i64 x.block :: .string x.data :: wcells L
theorem wcells_length : ∀ L : List Wr, (wcells L).length = L.length * 2
  | [] => rfl
  | x :: L => by simp only [wcells, List.length_cons, wcells_length L]; omega
theorem wcells_append : ∀ A B : List Wr, wcells (A ++ B) = wcells A ++ wcells B
  | [], B => rfl
  | x :: A, B => by simp [wcells, wcells_append A B]
theorem wcells_at : ∀ (L : List Wr) (i : Nat) (x : Wr), L[i]? = some x → (wcells L)[i * 2]? = some (.int .i64 x.block) ∧ (wcells L)[i * 2 + 1]? = some (.string x.data)
  | [], i, x, h => by simp at h
  | y :: L, 0, x, h => by simp at h; subst h; exact ⟨rfl, rfl⟩
  | y :: L, i + 1, x, h => by
    have := wcells_at L i x (by simpa using h)
    rw [show (i + 1) * 2 = i * 2 + 2 by omega]
    exact this
theorem wcells_one (L : List Wr) : ∀ u ∈ wcells L, u.oneCell' = true := by
  induction L with
  | nil => intro u h; simp [wcells] at h
  | cons x L ih =>
    intro u h
    simp only [wcells, List.mem_cons] at h
    rcases h with rfl | rfl | h
    · rfl
    · rfl
    · exact ih u h
theorem wcells_set : ∀ (L : List Wr) (k : Nat) (x : Wr), k < L.length → ((wcells L).set (k * 2) (.int .i64 x.block)).set (k * 2 + 1) (.string x.data) = wcells (L.set k x)
  | [], k, x, h => by simp at h
  | y :: L, 0, x, h => rfl
  | y :: L, k + 1, x, h => by
    have := wcells_set L k x (by simpa using h)
    rw [show (k + 1) * 2 = k * 2 + 2 by omega]
    rw [show k * 2 + 2 + 1 = (k * 2 + 1) + 2 by omega]
    simp only [wcells, List.set_cons_succ, this]

/-- v is the call's own row of the writes L -/
def OwnW (B : Nat) (e : TypeId) (v : Value) (L : List Wr) (W0 w : World) : Prop := w.ownsRow B e 2 v L.length (wcells L) ∧ Below B W0 w ∧ B ≤ w.heap.size
theorem OwnW.nil {B : Nat} {e : TypeId} {W0 w : World} (hb : Below B W0 w) (h : B ≤ w.heap.size) : OwnW B e (.slice none 0 0) [] W0 w := ⟨World.ownsRow_nil _ _ _ _, hb, h⟩
theorem OwnW.below {B : Nat} {e : TypeId} {v : Value} {L : List Wr} {W0 w : World} (h : OwnW B e v L W0 w) : Below B W0 w := h.2.1
theorem OwnW.alloc {B : Nat} {e : TypeId} {v : Value} {L : List Wr} {W0 w : World} (h : OwnW B e v L W0 w) (o : Obj) : OwnW B e v L W0 (w.alloc o) := ⟨h.1.alloc o, h.2.1.alloc h.2.2 o, Nat.le_trans h.2.2 (by simp)⟩
theorem OwnW.cast {B : Nat} {e : TypeId} {v : Value} {l l' : List Wr} {W0 w : World} (h : OwnW B e v l W0 w) (hl : l = l') : OwnW B e v l' W0 w := hl ▸ h
theorem OwnW.drew {B : Nat} {e : TypeId} {v : Value} {l : List Wr} {W0 w : World} (h : OwnW B e v l W0 w) : OwnW B e v l W0 w.drew := ⟨h.1, h.2.1.drew, h.2.2⟩
theorem OwnW.drewN {B : Nat} {e : TypeId} {v : Value} {l : List Wr} {W0 w : World} (h : OwnW B e v l W0 w) (n : Nat) : OwnW B e v l W0 (w.drewN n) := ⟨h.1, below_dr h.2.1 n, h.2.2⟩
theorem OwnW.grown {B : Nat} {e : TypeId} {v v' : Value} {L L' : List Wr} {W0 w w' : World} (h : OwnW B e v L W0 w) (ho : w'.ownsRow B e 2 v' L'.length (wcells L')) (hg : w.grownBy w' v.ownBlock) : OwnW B e v' L' W0 w' :=
  ⟨ho, h.2.1.grown hg h.2.2 (fun k hk => (h.1.lt k hk).1), Nat.le_trans h.2.2 hg.size⟩
theorem OwnW.past {B : Nat} {e : TypeId} {v : Value} {l : List Wr} {W0 w w' : World} (h : OwnW B e v l W0 w) (hb : Below w.heap.size w w') : OwnW B e v l W0 w' := by
  obtain ⟨h1, h2, h3⟩ := h
  refine ⟨⟨h1.1, ?_⟩, h2.trans (hb.mono h3), Nat.le_trans h3 hb.size⟩
  rcases h1.2 with hn | ⟨g, cap, cur, hv, hB, hg, rest⟩
  · exact .inl hn
  · exact .inr ⟨g, cap, cur, hv, hB, by rw [hb.block g (Array.getElem?_eq_some_iff.1 hg).1]; exact hg, rest⟩
theorem OwnW.lower {B B' : Nat} {e : TypeId} {v : Value} {L : List Wr} {W0 W1 w : World} (h : OwnW B' e v L W1 w) (hB : B ≤ B') (hb : Below B W0 W1) : OwnW B e v L W0 w := by
  obtain ⟨h1, h2, h3⟩ := h
  refine ⟨⟨h1.1, ?_⟩, hb.trans (h2.mono hB), Nat.le_trans hB h3⟩
  rcases h1.2 with hn | ⟨g, cap, cur, hv, hg, rest⟩
  · exact .inl hn
  · exact .inr ⟨g, cap, cur, hv, Nat.le_trans hB hg, rest⟩
theorem OwnW.isSlice {B : Nat} {e : TypeId} {v : Value} {L : List Wr} {W0 w : World} (h : OwnW B e v L W0 w) : ∃ p c, v = .slice p L.length c := by
  rcases h.1.2 with ⟨rfl, hn⟩ | ⟨_, cap, _, rfl, _⟩
  · exact ⟨none, 0, by rw [hn]⟩
  · exact ⟨_, cap, rfl⟩
theorem OwnW.shape {B : Nat} {e : TypeId} {v : Value} {L : List Wr} {W0 w : World} (h : OwnW B e v L W0 w) (hne : 0 < L.length) : ∃ g cap, v = .slice (some ⟨g, 0, none⟩) L.length cap ∧ B ≤ g ∧ g < w.heap.size ∧ L.length ≤ cap := by
  rcases h.1.2 with ⟨_, hn⟩ | ⟨g, cap, cur, rfl, hB, hg, hcap, _⟩
  · omega
  · exact ⟨g, cap, rfl, hB, (Array.getElem?_eq_some_iff.1 hg).1, hcap⟩
theorem OwnW.cell {B g cap n : Nat} {e : TypeId} {L : List Wr} {W0 w : World} (h : OwnW B e (.slice (some ⟨g, 0, none⟩) n cap) L W0 w) {k : Nat} {x : Wr} (hx : L[k]? = some x) :
    w.cell? ⟨g, k * 2, none⟩ = some (.int .i64 x.block) ∧ w.cell? ⟨g, k * 2 + 1, none⟩ = some (.string x.data) ∧ (∀ j, w.frozen? ⟨g, j, none⟩ = false) ∧ n = L.length := by
  have hk := (List.getElem?_eq_some_iff.1 hx).1
  have hnL : n = L.length := by
    rcases h.1.2 with ⟨h', _⟩ | ⟨g', cap', cur, h', _⟩
    · cases h'
    · cases h'; rfl
  subst hnL
  obtain ⟨c0, c1⟩ := wcells_at L k x hx
  exact ⟨(h.1.cellAt _ (by omega)).trans c0, (h.1.cellAt _ (by omega)).trans c1, h.1.frozenAt, rfl⟩
theorem OwnW.writes {B : Nat} {e : TypeId} {v : Value} {L : List Wr} {W0 w : World} (h : OwnW B e v L W0 w) (hl : L.length ≤ 140737488355328) : WritesAt w v L := by
  have h' := h
  obtain ⟨h1, _, _⟩ := h'
  rcases h1.2 with ⟨rfl, hn⟩ | ⟨g, cap, cur, rfl, hB, hg, hcap, _, _, htk⟩
  · have : L = [] := List.eq_nil_of_length_eq_zero hn
    subst this
    exact ⟨none, 0, rfl, hl, fun _ => rfl, fun i x hx => by simp at hx⟩
  · refine ⟨some ⟨g, 0, none⟩, cap, rfl, hl, (fun h => by cases h), fun i x hx => ⟨g, 0, rfl, (Array.getElem?_eq_some_iff.1 hg).1, ?_⟩⟩
    obtain ⟨c0, c1, _, _⟩ := h.cell hx
    exact ⟨by rw [Nat.zero_add]; exact c0, by rw [Nat.zero_add]; exact c1⟩
/-- 'data[k] = x' -/
theorem OwnW.set {B g cap n : Nat} {e : TypeId} {L : List Wr} {W0 w : World} (h : OwnW B e (.slice (some ⟨g, 0, none⟩) n cap) L W0 w) {k : Nat} (hk : k < L.length) (x : Wr) :
    OwnW B e (.slice (some ⟨g, 0, none⟩) n cap) (L.set k x) W0 ((w.setCell ⟨g, k * 2, none⟩ (.int .i64 x.block)).setCell ⟨g, k * 2 + 1, none⟩ (.string x.data)) := by
  obtain ⟨_, _, _, rfl⟩ := h.cell (List.getElem?_eq_getElem hk)
  obtain ⟨h1, g1⟩ := h.1.stored (k * 2) (.int .i64 x.block)
  obtain ⟨h2, g2⟩ := h1.stored (k * 2 + 1) (.string x.data)
  rw [wcells_set L k x hk] at h2
  have hg : B ≤ g := (h.1.lt g rfl).1
  refine ⟨by rw [List.length_set]; exact h2, (h.2.1.setCell (p := ⟨g, _, none⟩) hg _).setCell (p := ⟨g, _, none⟩) hg _, Nat.le_trans h.2.2 (Nat.le_trans g1.size g2.size)⟩

/-! ### sorting -/
def bk (L : List Wr) (p : Nat) : Int := (L[p]?.getD ⟨0, ⟨#[]⟩⟩).block
theorem bk_at {L : List Wr} {p : Nat} {x : Wr} (h : L[p]? = some x) : bk L p = x.block := by unfold bk; rw [h]; rfl
/-- the state of the inner loop -/
structure Ins (L : List Wr) (i j : Nat) : Prop where
  rest : ∀ p q, p < q → q ≤ i → p ≠ j → q ≠ j → bk L p ≤ bk L q
  up : ∀ q, j < q → q ≤ i → bk L j ≤ bk L q
def SortedTo (L : List Wr) (i : Nat) : Prop := ∀ p q, p < q → q < i → bk L p ≤ bk L q
theorem Ins.start {L : List Wr} {i : Nat} (h : SortedTo L i) : Ins L i i := ⟨fun p q h1 h2 _ h4 => h p q h1 (by omega), fun q h1 h2 => by omega⟩
theorem Ins.done {L : List Wr} {i j : Nat} (h : Ins L i j) (hj : j = 0 ∨ bk L (j - 1) ≤ bk L j) : SortedTo L (i + 1) := by
  intro p q hpq hq
  by_cases h1 : p = j
  · subst h1; exact h.up q hpq (by omega)
  · by_cases h2 : q = j
    · subst h2
      rcases hj with h0 | h0
      · omega
      · by_cases h3 : p = q - 1
        · rw [h3]; exact h0
        · have := h.rest p (q - 1) (by omega) (by omega) h1 (by omega)
          omega
    · exact h.rest p q hpq (by omega) h1 h2
theorem Ins.swap {L : List Wr} {i m : Nat} {x y : Wr} (h : Ins L i (m + 1)) (hm : m + 1 ≤ i) (hx : L[m + 1]? = some x) (hy : L[m]? = some y) (hlt : x.block < y.block) : Ins ((L.set (m + 1) y).set m x) i m := by
  have hlx := (List.getElem?_eq_some_iff.1 hx).1
  have hb : ∀ p, bk ((L.set (m + 1) y).set m x) p = if p = m then bk L (m + 1) else if p = m + 1 then bk L m else bk L p := by
    intro p
    unfold bk
    by_cases h1 : p = m
    · subst h1
      rw [if_pos rfl, hx]
      simp [show p < L.length by omega]
    · rw [if_neg h1, List.getElem?_set_ne (by omega)]
      by_cases h2 : p = m + 1
      · subst h2
        rw [if_pos rfl, hy]
        simp [hlx]
      · rw [if_neg h2, List.getElem?_set_ne (by omega)]
  have e1 := bk_at hx
  have e2 := bk_at hy
  refine ⟨fun p q hpq hq hp hqm => ?_, fun q h1 h2 => ?_⟩
  · rw [hb, hb, if_neg hp, if_neg hqm]
    by_cases h3 : p = m + 1
    · rw [if_pos h3, if_neg (by omega)]
      exact h.rest m q (by omega) hq (by omega) (by omega)
    · rw [if_neg h3]
      by_cases h4 : q = m + 1
      · rw [if_pos h4]
        exact h.rest p m (by omega) (by omega) h3 (by omega)
      · rw [if_neg h4]
        exact h.rest p q hpq hq h3 h4
  · rw [hb, hb, if_pos rfl, if_neg (by omega)]
    by_cases h3 : q = m + 1
    · rw [if_pos h3]; omega
    · rw [if_neg h3]
      exact h.up q (by omega) h2
theorem swap_perm {L : List Wr} {m : Nat} {x y : Wr} (hx : L[m + 1]? = some x) (hy : L[m]? = some y) : ((L.set (m + 1) y).set m x).Perm L := by
  obtain ⟨h1, rfl⟩ := List.getElem?_eq_some_iff.1 hx
  obtain ⟨h2, rfl⟩ := List.getElem?_eq_some_iff.1 hy
  exact List.set_set_perm h1 h2
theorem SortedTo.pw {L : List Wr} (h : SortedTo L L.length) : L.Pairwise (fun x y => x.block ≤ y.block) := by
  rw [List.pairwise_iff_getElem]
  intro p q hp hq hpq
  have := h p q hpq hq
  rw [bk_at (List.getElem?_eq_getElem hp), bk_at (List.getElem?_eq_getElem hq)] at this
  exact this
section
variable {P : Program}
/-- one write more -/
theorem wpList_own_write {ops : Array Oper} {rest : List Oper} {o : Oper} {a : Act} {Q : Exit → Act → World → Prop} (hgd : o.guard = none) (s x : Operand) (t : TypeId)
    (ho : o.op = .call { callee := .builtin .append, args := #[s, x], argTypes := #[t, t] })
    (B : Nat) (e : TypeId) (i : TypeInfo) (z : Value) (ht : P.underlying t = some (.slice e)) (hi : P.info? e = some i) (hz : i.zero = some z) (hzs : z.cells.size = 2) (hsize : i.size = 2) (hby : i.bytes = 24)
    (v : Value) (L : List Wr) (hs : a.eval s = v) (W0 w0 : World) (y : Wr) (hb : OwnW B e v L W0 w0)
    (g : Nat) (hx : a.eval x = .slice (some ⟨g, 0, none⟩) 1 1) (hgw : g = w0.heap.size) (hlen : L.length + 1 ≤ 1000000)
    (h : ∀ v' w', OwnW B e v' (L ++ [y]) W0 w' → wpList P ops Q rest (a.put o.dst v') w') : wpList P ops Q (o :: rest) a (w0.alloc (.cells #[.int .i64 y.block, .string y.data] e)) := by
  subst hgw
  have hb' := hb.alloc (.cells #[.int .i64 y.block, .string y.data] e)
  refine wpList_append_own _ hgd s x t ho B e i z 2 24 ht hi hz hsize hby hzs (by decide) v L.length (wcells L) hs hb'.1 ⟨w0.heap.size, 0, none⟩ 1 1 (wcells [y]) hx rfl ?_ (wcells_one _) (by unfold maxLen; omega) (by omega) hb'.2.2 ?_
  · intro j u hj
    match j, hj with
    | 0, hj => simp [wcells] at hj; subst hj; simp [Addr.add]
    | 1, hj => simp [wcells] at hj; subst hj; simp [Addr.add]
    | (j + 2), hj => simp [wcells] at hj
  · intro v' w' ho' hg _
    exact h v' w' (hb'.grown (by rw [wcells_append, List.length_append]; exact ho') hg)
/-- the same as one step of a region that draws -/
theorem step_own_write {ops : Array Oper} {o : Oper} {a : Act} {K : Act → World → Prop} {Q : Exit → Act → World → Prop} {E : Prop} (hgd : o.guard = none) (s x : Operand) (t : TypeId)
    (ho : o.op = .call { callee := .builtin .append, args := #[s, x], argTypes := #[t, t] })
    (B : Nat) (e : TypeId) (i : TypeInfo) (z : Value) (ht : P.underlying t = some (.slice e)) (hi : P.info? e = some i) (hz : i.zero = some z) (hzs : z.cells.size = 2) (hsize : i.size = 2) (hby : i.bytes = 24)
    (v : Value) (L : List Wr) (hs : a.eval s = v) (W0 w0 : World) (y : Wr) (hb : OwnW B e v L W0 w0)
    (g : Nat) (hx : a.eval x = .slice (some ⟨g, 0, none⟩) 1 1) (hgw : g = w0.heap.size) (hlen : L.length + 1 ≤ 1000000)
    (hK : ∀ v' w', OwnW B e v' (L ++ [y]) W0 w' → K (a.put o.dst v') w') : if Region.wanted o (yielded ops a.tmps) = true then Oper.wp P o a (w0.alloc (.cells #[.int .i64 y.block, .string y.data] e)) K Q else E := by
  have hw : Region.wanted o (yielded ops a.tmps) = true := by simp [Region.wanted, hgd]
  rw [if_pos hw]
  subst hgw
  have hb' := hb.alloc (.cells #[.int .i64 y.block, .string y.data] e)
  obtain ⟨v', w', hrun, ho', hg, _⟩ := run_append_own (P := P) (w0.alloc (.cells #[.int .i64 y.block, .string y.data] e)) B t o.type e i z 2 24 ht hi hz hsize hby hzs (by decide) v L.length (wcells L) hb'.1 ⟨w0.heap.size, 0, none⟩ 1 1 (wcells [y]) rfl (by
    intro j u hj
    match j, hj with
    | 0, hj => simp [wcells] at hj; subst hj; simp [Addr.add]
    | 1, hj => simp [wcells] at hj; subst hj; simp [Addr.add]
    | (j + 2), hj => simp [wcells] at hj) (wcells_one _) (by unfold maxLen; omega) (by omega) hb'.2.2
  unfold Oper.wp
  simp [execOp, ho, resolve, invoke, builtin, hs, hx, hrun, Result.andThen]
  exact hK _ _ (hb'.grown (by rw [wcells_append, List.length_append]; exact ho') hg)
end

theorem infoWrite : (Tryd.prog.info? 48).map (fun i => (i.zero, i.size, i.bytes)) = some (some (.agg #[.int .i64 0, .string ⟨#[]⟩]), 2, 24) := by kernel_rfl
end Go.Proofs.YthjaanhkmfiajabDoor
