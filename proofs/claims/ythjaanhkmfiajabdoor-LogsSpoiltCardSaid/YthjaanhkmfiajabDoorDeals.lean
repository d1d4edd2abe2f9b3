/- A row of slices of writes that a call owns, told by a list of lists of writes: append of one. No condition but those in the statements. -/
import Derived.Test.YthjaanhkmfiajabDoorWritesOwn
import Derived.Test.YthjaanhkmfiajabDoorStrsOwn
namespace Go.Proofs.YthjaanhkmfiajabDoor
open Go.RowKit

/-- the slice value u holds the writes W, in a block of writes -/
def InnerAt (w : World) (u : Value) (W : List Wr) : Prop :=
  WritesAt w u W ∧ ∀ p n c, u = .slice (some p) n c → ∃ cur fr, w.heap[p.block]? = some (.cells cur 48 fr)
theorem row_type {B : Nat} {e : TypeId} {size : Nat} {v : Value} {n : Nat} {xs : List Value} {w : World} (h : w.ownsRow B e size v n xs) : ∀ g, v.ownBlock = some g → ∃ cur, w.heap[g]? = some (.cells cur e (0, 0)) := by
  intro g hg
  rcases h.2 with ⟨rfl, _⟩ | ⟨g', cap, cur, rfl, _, hgg, _⟩
  · simp [Value.ownBlock] at hg
  · simp [Value.ownBlock] at hg
    subst hg
    exact ⟨cur, hgg⟩
theorem type_apart {e t : TypeId} (hne : e ≠ t) {B : Nat} {size : Nat} {v : Value} {n : Nat} {xs : List Value} {w : World} (h : w.ownsRow B e size v n xs) {k : Nat} {cur : Array Value} {fr : Nat × Nat} (hk : w.heap[k]? = some (.cells cur t fr)) : some k ≠ v.ownBlock := by
  intro he
  obtain ⟨c2, h2⟩ := row_type h k he.symm
  rw [hk] at h2
  simp only [Option.some.injEq, Obj.cells.injEq] at h2
  exact hne h2.2.1.symm
theorem InnerAt.keep {w w' : World} {u : Value} {W : List Wr} (h : InnerAt w u W) (hb : Below w.heap.size w w') : InnerAt w' u W := by
  refine ⟨h.1.keep hb, fun p n c hu => ?_⟩
  obtain ⟨cur, fr, hk⟩ := h.2 p n c hu
  exact ⟨cur, fr, (hb.block _ (Array.getElem?_eq_some_iff.1 hk).1).trans hk⟩
theorem InnerAt.grown {e : TypeId} (hne : e ≠ 48) {B : Nat} {size : Nat} {v : Value} {n : Nat} {xs : List Value} {w w' : World} {u : Value} {W : List Wr} (h : InnerAt w u W) (hrow : w.ownsRow B e size v n xs) (hg : w.grownBy w' v.ownBlock) : InnerAt w' u W := by
  obtain ⟨⟨p, cap, hv, hl, hn, hc⟩, ht⟩ := h
  refine ⟨⟨p, cap, hv, hl, hn, fun i x hx => ?_⟩, fun p' n' c' hu => ?_⟩
  · obtain ⟨b, off, hp, hlt, h0, h1⟩ := hc i x hx
    obtain ⟨cur, fr, hk⟩ := ht ⟨b, off, none⟩ _ _ (by rw [hv, hp])
    have hap := type_apart hne hrow hk
    exact ⟨b, off, hp, Nat.lt_of_lt_of_le hlt hg.size, hg.cell h0 hap, hg.cell h1 hap⟩
  · obtain ⟨cur, fr, hk⟩ := ht p' n' c' hu
    exact ⟨cur, fr, (hg.block _ (Array.getElem?_eq_some_iff.1 hk).1 (type_apart hne hrow hk)).trans hk⟩
theorem OwnW.inner {B : Nat} {v : Value} {L : List Wr} {W0 w : World} (h : OwnW B 48 v L W0 w) (hl : L.length ≤ 140737488355328) : InnerAt w v L := by
  refine ⟨h.writes hl, fun p n c hv => ?_⟩
  subst hv
  obtain ⟨cur, hc⟩ := row_type h.1 p.block rfl
  exact ⟨cur, _, hc⟩

/-- the slice value v holds the transactions D -/
def DealsAt (w : World) (v : Value) (D : List (List Wr)) : Prop :=
  ∃ (p : Option Addr) (cap : Nat), v = .slice p D.length cap ∧ D.length ≤ 140737488355328 ∧ D.length ≤ cap ∧
    ∀ (i : Nat) (W : List Wr), D[i]? = some W → ∃ g off u, p = some ⟨g, off, none⟩ ∧ g < w.heap.size ∧ w.cell? ⟨g, off + i, none⟩ = some u ∧ WritesAt w u W
theorem DealsAt.keep {w w' : World} {v : Value} {D : List (List Wr)} (h : DealsAt w v D) (hb : Below w.heap.size w w') : DealsAt w' v D := by
  obtain ⟨p, cap, hv, hl, hcp, hc⟩ := h
  refine ⟨p, cap, hv, hl, hcp, fun i x hx => ?_⟩
  obtain ⟨g, off, u, hp, hlt, h0, h1⟩ := hc i x hx
  exact ⟨g, off, u, hp, Nat.lt_of_lt_of_le hlt hb.size, (hb.cell (p := ⟨g, _, none⟩) hlt).trans h0, h1.keep hb⟩
/-- v is the call's own row of the transactions D -/
def OwnD (B : Nat) (e : TypeId) (v : Value) (D : List (List Wr)) (W0 w : World) : Prop :=
  ∃ vs : List Value, vs.length = D.length ∧ w.ownsRow B e 1 v D.length vs ∧ Below B W0 w ∧ B ≤ w.heap.size ∧ (∀ u ∈ vs, u.oneCell' = true) ∧ ∀ (i : Nat) u W, vs[i]? = some u → D[i]? = some W → InnerAt w u W
theorem OwnD.nil {B : Nat} {e : TypeId} {W0 w : World} (hb : Below B W0 w) (h : B ≤ w.heap.size) : OwnD B e (.slice none 0 0) [] W0 w := ⟨[], rfl, World.ownsRow_nil _ _ _ _, hb, h, by simp, by simp⟩
theorem OwnD.below {B : Nat} {e : TypeId} {v : Value} {D : List (List Wr)} {W0 w : World} (h : OwnD B e v D W0 w) : Below B W0 w := by
  obtain ⟨_, _, _, hb, _⟩ := h
  exact hb
theorem OwnD.size {B : Nat} {e : TypeId} {v : Value} {D : List (List Wr)} {W0 w : World} (h : OwnD B e v D W0 w) : B ≤ w.heap.size := by
  obtain ⟨_, _, _, _, hb, _⟩ := h
  exact hb
theorem OwnD.cast {B : Nat} {e : TypeId} {v : Value} {D D' : List (List Wr)} {W0 w : World} (h : OwnD B e v D W0 w) (hl : D = D') : OwnD B e v D' W0 w := hl ▸ h
theorem OwnD.past {B : Nat} {e : TypeId} {v : Value} {D : List (List Wr)} {W0 w w' : World} (h : OwnD B e v D W0 w) (hb : Below w.heap.size w w') : OwnD B e v D W0 w' := by
  obtain ⟨vs, hl, h1, h2, h3, h4, h5⟩ := h
  refine ⟨vs, hl, ⟨h1.1, ?_⟩, h2.trans (hb.mono h3), Nat.le_trans h3 hb.size, h4, fun i u W hu hW => (h5 i u W hu hW).keep hb⟩
  rcases h1.2 with hn | ⟨g, cap, cur, hv, hB, hg, rest⟩
  · exact .inl hn
  · exact .inr ⟨g, cap, cur, hv, hB, by rw [hb.block g (Array.getElem?_eq_some_iff.1 hg).1]; exact hg, rest⟩
theorem OwnD.alloc {B : Nat} {e : TypeId} {v : Value} {D : List (List Wr)} {W0 w : World} (h : OwnD B e v D W0 w) (o : Obj) : OwnD B e v D W0 (w.alloc o) := h.past ((Below.refl _ _).alloc (Nat.le_refl _) o)
theorem OwnD.lower {B B' : Nat} {e : TypeId} {v : Value} {D : List (List Wr)} {W0 W1 w : World} (h : OwnD B' e v D W1 w) (hB : B ≤ B') (hb : Below B W0 W1) : OwnD B e v D W0 w := by
  obtain ⟨vs, hl, h1, h2, h3, h4, h5⟩ := h
  refine ⟨vs, hl, ⟨h1.1, ?_⟩, hb.trans (h2.mono hB), Nat.le_trans hB h3, h4, h5⟩
  rcases h1.2 with hn | ⟨g, cap, cur, hv, hg, rest⟩
  · exact .inl hn
  · exact .inr ⟨g, cap, cur, hv, Nat.le_trans hB hg, rest⟩
theorem OwnD.isSlice {B : Nat} {e : TypeId} {v : Value} {D : List (List Wr)} {W0 w : World} (h : OwnD B e v D W0 w) : ∃ p c, v = .slice p D.length c := by
  obtain ⟨vs, hl, h1, _⟩ := h
  rcases h1.2 with ⟨rfl, hn⟩ | ⟨_, cap, _, rfl, _⟩
  · exact ⟨none, 0, by rw [hn]⟩
  · exact ⟨_, cap, rfl⟩
theorem OwnD.deals {B : Nat} {e : TypeId} {v : Value} {D : List (List Wr)} {W0 w : World} (h : OwnD B e v D W0 w) (hl : D.length ≤ 140737488355328) : DealsAt w v D := by
  obtain ⟨vs, hlv, h1, _, _, _, h5⟩ := h
  rcases h1.2 with ⟨rfl, hn⟩ | ⟨g, cap, cur, rfl, hB, hg, hcap, _, _, htk⟩
  · have : D = [] := List.eq_nil_of_length_eq_zero hn
    subst this
    exact ⟨none, 0, rfl, hl, Nat.le_refl _, fun i x hx => by simp at hx⟩
  · refine ⟨some ⟨g, 0, none⟩, cap, rfl, hl, hcap, fun i W hW => ?_⟩
    have hi : i < vs.length := by rw [hlv]; exact (List.getElem?_eq_some_iff.1 hW).1
    refine ⟨g, 0, vs[i], rfl, (Array.getElem?_eq_some_iff.1 hg).1, ?_, (h5 i _ W (List.getElem?_eq_getElem hi) hW).1⟩
    rw [Nat.zero_add]
    exact (h1.cellAt i (by omega)).trans (List.getElem?_eq_getElem hi)
/-- a slice's head holds the head -/
theorem DealsAt.take {w : World} {p : Option Addr} {n cap : Nat} {D : List (List Wr)} (h : DealsAt w (.slice p n cap) D) {k : Nat} (hk : k ≤ D.length) : DealsAt w (.slice p k cap) (D.take k) := by
  obtain ⟨p', cap', hv, hl, hcp, hc⟩ := h
  cases hv
  refine ⟨p, cap, by rw [List.length_take, Nat.min_eq_left hk], by rw [List.length_take]; omega, by rw [List.length_take]; omega, fun i W hW => ?_⟩
  rw [List.getElem?_take] at hW
  split at hW
  · exact hc i W hW
  · cases hW

section
variable {P : Program}
theorem wpList_own_deal {ops : Array Oper} {rest : List Oper} {o : Oper} {a : Act} {Q : Exit → Act → World → Prop} (hgd : o.guard = none) (s x : Operand) (t : TypeId)
    (ho : o.op = .call { callee := .builtin .append, args := #[s, x], argTypes := #[t, t] })
    (B : Nat) (e : TypeId) (hne : e ≠ 48) (i : TypeInfo) (z : Value) (ht : P.underlying t = some (.slice e)) (hi : P.info? e = some i) (hz : i.zero = some z) (hzs : z.cells.size = 1) (hsize : i.size = 1) (hby : i.bytes = 24)
    (v : Value) (D : List (List Wr)) (hs : a.eval s = v) (W0 w0 : World) (u : Value) (Y : List Wr) (hu1 : u.oneCell' = true) (hu : InnerAt w0 u Y) (hb : OwnD B e v D W0 w0)
    (g : Nat) (hx : a.eval x = .slice (some ⟨g, 0, none⟩) 1 1) (hgw : g = w0.heap.size) (hlen : (D.length + 1) * 24 ≤ 140737488355328)
    (h : ∀ v' w', OwnD B e v' (D ++ [Y]) W0 w' → w0.grownBy w' v.ownBlock → wpList P ops Q rest (a.put o.dst v') w') : wpList P ops Q (o :: rest) a (w0.alloc (.cells #[u] e)) := by
  subst hgw
  have hu' := hu.keep ((Below.refl _ _).alloc (Nat.le_refl _) (.cells #[u] e))
  have hb' := hb.alloc (.cells #[u] e)
  obtain ⟨vs, hlv, h1, h2, h3, h4, h5⟩ := hb'
  refine wpList_append_own _ hgd s x t ho B e i z 1 24 ht hi hz hsize hby hzs (by decide) v D.length vs hs h1 ⟨w0.heap.size, 0, none⟩ 1 1 [u] hx rfl ?_ (by simpa using hu1) (by unfold maxLen; omega) hlen h3 ?_
  · intro j y hj
    match j, hj with
    | 0, hj => simp at hj; subst hj; simp [Addr.add]
    | j + 1, hj => simp at hj
  · intro v' w' ho' hg _
    refine h v' w' ⟨vs ++ [u], by simp [hlv], by rw [List.length_append]; exact ho', h2.grown hg h3 (fun k hk => (h1.lt k hk).1), Nat.le_trans h3 hg.size, ?_, ?_⟩ (grown_twice (World.grownBy_alloc w0 _ _) hg)
    · intro y hy
      rcases List.mem_append.1 hy with hy | hy
      · exact h4 y hy
      · simp at hy; subst hy; exact hu1
    · intro i y W hy hW
      by_cases hi : i < vs.length
      · rw [List.getElem?_append_left hi] at hy
        rw [List.getElem?_append_left (by omega)] at hW
        exact (h5 i y W hy hW).grown hne h1 hg
      · rw [List.getElem?_append_right (by omega)] at hy
        rw [List.getElem?_append_right (by omega)] at hW
        have hi0 : i - vs.length = 0 := by
          have := (List.getElem?_eq_some_iff.1 hy).1
          simp at this
          omega
        rw [hi0] at hy
        rw [← hlv, hi0] at hW
        simp at hy hW
        subst hy hW
        exact hu'.grown hne h1 hg
end
end Go.Proofs.YthjaanhkmfiajabDoor
