/- A volume copied: steps of a region that draws, its two boxes, its two rows apart. Condition: the size of what is copied. -/
import Derived.Test.YtajjhjabehiikabDoorVolOwn
import Derived.Deep.RegionLaw
import Derived.Lib.Hide
namespace Go.Proofs.YtajjhjabehiikabDoor
open Go.RowKit

section
variable {P : Program}
/-- a whole slice of items copied onto nil, as one step of a region that draws -/
theorem step_copy_all_items {ops : Array Oper} {o : Oper} {a : Act} {w : World} {K : Act → World → Prop} {Q : Exit → Act → World → Prop} {E : Prop} (hgd : o.guard = none) (s x : Operand) (t : TypeId)
    (ho : o.op = .call { callee := .builtin .append, args := #[s, x], argTypes := #[t, t] })
    (e : TypeId) (i : TypeInfo) (z : Value) (ht : P.underlying t = some (.slice e)) (hi : P.info? e = some i) (hz : i.zero = some z) (hzs : z.cells.size = 3) (hsize : i.size = 3) (hby : i.bytes = 32)
    (hs : a.eval s = .slice none 0 0) (M : List It) (vm : Value) (hm : ItemsAt w vm M) (hx : a.eval x = vm) (hlen : M.length * 32 ≤ 140737488355328)
    (hK : ∀ v' w', OwnI w.heap.size e v' M w w' → K (a.put o.dst v') w') : if Region.wanted o (yielded ops a.tmps) = true then Oper.wp P o a w K Q else E := by
  have hw : Region.wanted o (yielded ops a.tmps) = true := by simp [Region.wanted, hgd]
  rw [if_pos hw]
  obtain ⟨p, cap, rfl, hl, hn, hc⟩ := hm
  have h0 : OwnI w.heap.size e (.slice none 0 0) [] w w := OwnI.nil (Below.refl _ _) (Nat.le_refl _)
  cases p with
  | none =>
    have hM : M = [] := by
      cases M with
      | nil => rfl
      | cons y M => obtain ⟨_, _, hp, _⟩ := hc 0 y rfl; cases hp
    subst hM
    obtain rfl := hn rfl
    have hrun := run_append_owned_none (P := P) (w := w) w.heap.size t o.type e i 3 ht hi (.slice none 0 0) 0 [] h0.1
    unfold Oper.wp
    simp [execOp, ho, resolve, invoke, builtin, hs, hx, hrun, Result.andThen]
    exact hK _ _ h0
  | some ad =>
    obtain ⟨v', w', hrun, ho', hg, _⟩ := run_append_own (P := P) w w.heap.size t o.type e i z 3 32 ht hi hz hsize hby hzs (by decide) (.slice none 0 0) 0 [] h0.1 ad M.length cap (icells M) (icells_length M) (by
      intro j u hj
      have hjl := (List.getElem?_eq_some_iff.1 hj).1
      rw [icells_length] at hjl
      obtain ⟨q, r, hr, hjq⟩ : ∃ q r, r < 3 ∧ j = q * 3 + r := ⟨j / 3, j % 3, by omega, by omega⟩
      have hq : q < M.length := by omega
      obtain ⟨b, off, hp, _, c0, c1, c2⟩ := hc q M[q] (List.getElem?_eq_getElem hq)
      cases hp
      obtain ⟨d0, d1, d2⟩ := icells_at M q M[q] (List.getElem?_eq_getElem hq)
      rw [Addr.add_lit, hjq]
      rw [hjq] at hj
      match r, hr with
      | 0, _ => rw [← hj]; exact c0.trans d0.symm
      | 1, _ => rw [← hj]; exact c1.trans d1.symm
      | 2, _ => rw [← hj]; exact c2.trans d2.symm) (icells_one _) (by unfold maxLen; omega) (by omega) (Nat.le_refl _)
    rw [Nat.zero_add, List.nil_append] at ho'
    unfold Oper.wp
    simp [execOp, ho, resolve, invoke, builtin, hs, hx, hrun, Result.andThen]
    exact hK _ _ (h0.grown ho' hg)
theorem step_copy_all_ints {ops : Array Oper} {o : Oper} {a : Act} {w : World} {K : Act → World → Prop} {Q : Exit → Act → World → Prop} {E : Prop} (hgd : o.guard = none) (s x : Operand) (t : TypeId)
    (ho : o.op = .call { callee := .builtin .append, args := #[s, x], argTypes := #[t, t] })
    (e : TypeId) (i : TypeInfo) (z : Value) (ht : P.underlying t = some (.slice e)) (hi : P.info? e = some i) (hz : i.zero = some z) (hzs : z.cells.size = 1) (hsize : i.size = 1) (hby : i.bytes = 8)
    (hs : a.eval s = .slice none 0 0) (M : List Int) (vm : Value) (hm : IntsAt w vm M) (hx : a.eval x = vm) (hlen : M.length * 8 ≤ 140737488355328)
    (hK : ∀ v' w', OwnZ w.heap.size e v' M w w' → K (a.put o.dst v') w') : if Region.wanted o (yielded ops a.tmps) = true then Oper.wp P o a w K Q else E := by
  have hw : Region.wanted o (yielded ops a.tmps) = true := by simp [Region.wanted, hgd]
  rw [if_pos hw]
  obtain ⟨p, cap, rfl, hl, hn, hc⟩ := hm
  have h0 : OwnZ w.heap.size e (.slice none 0 0) [] w w := OwnZ.nil (Below.refl _ _) (Nat.le_refl _)
  cases p with
  | none =>
    have hM : M = [] := by
      cases M with
      | nil => rfl
      | cons y M => obtain ⟨_, _, hp, _⟩ := hc 0 y rfl; cases hp
    subst hM
    obtain rfl := hn rfl
    have hrun := run_append_owned_none (P := P) (w := w) w.heap.size t o.type e i 1 ht hi (.slice none 0 0) 0 [] h0.1
    unfold Oper.wp
    simp [execOp, ho, resolve, invoke, builtin, hs, hx, hrun, Result.andThen]
    exact hK _ _ h0
  | some ad =>
    obtain ⟨v', w', hrun, ho', hg, _⟩ := run_append_own (P := P) w w.heap.size t o.type e i z 1 8 ht hi hz hsize hby hzs (by decide) (.slice none 0 0) 0 [] h0.1 ad M.length cap (zcells M) (by simp [zcells]) (by
      intro j u hj
      unfold zcells at hj
      rw [List.getElem?_map] at hj
      cases hz' : M[j]? with
      | none => rw [hz'] at hj; simp at hj
      | some z' =>
        rw [hz'] at hj
        simp at hj
        subst hj
        obtain ⟨b, off, hp, _, c0⟩ := hc j z' hz'
        cases hp
        rw [Addr.add_lit]
        exact c0) (zcells_one _) (by unfold maxLen; omega) (by omega) (Nat.le_refl _)
    rw [Nat.zero_add, List.nil_append] at ho'
    unfold Oper.wp
    simp [execOp, ho, resolve, invoke, builtin, hs, hx, hrun, Result.andThen]
    exact hK _ _ (h0.grown ho' hg)
end

/-- the box of two cells and the result's block stand behind a call's own work -/
theorem two_boxes {w W w' : World} {a b c d : Value} {T U : TypeId} (hb : Below W.heap.size W w') (hW : W = ((w.alloc (.cells #[a, b] T)).alloc (.cells #[c, d] U)).drew) :
    w'.cell? ⟨w.heap.size, 0, none⟩ = some a ∧ w'.cell? ⟨w.heap.size, 1, none⟩ = some b ∧ w'.cell? ⟨w.heap.size + 1, 0, none⟩ = some c ∧ w'.cell? ⟨w.heap.size + 1, 1, none⟩ = some d ∧
    w'.frozen? ⟨w.heap.size + 1, 0, none⟩ = false ∧ w'.frozen? ⟨w.heap.size + 1, 1, none⟩ = false := by
  subst hW
  refine ⟨?_, ?_, ?_, ?_, ?_, ?_⟩
  · rw [hb.cell (p := ⟨w.heap.size, 0, none⟩) (by simp; omega)]; simp
  · rw [hb.cell (p := ⟨w.heap.size, 1, none⟩) (by simp; omega)]; simp
  · rw [hb.cell (p := ⟨w.heap.size + 1, 0, none⟩) (by simp)]; simp
  · rw [hb.cell (p := ⟨w.heap.size + 1, 1, none⟩) (by simp)]; simp
  · rw [hb.frozen (p := ⟨w.heap.size + 1, 0, none⟩) (by simp)]; simp
  · rw [hb.frozen (p := ⟨w.heap.size + 1, 1, none⟩) (by simp)]; simp

/-- two rows, the one behind the other, apart -/
theorem apart_later {W1 W2 w1 w2 : World} {ei ez : TypeId} {vi vz : Value} {L : List It} {Z : List Int} (h1 : OwnI W1.heap.size ei vi L W1 w1) (h2 : OwnZ W2.heap.size ez vz Z W2 w2) (hb : w1.heap.size ≤ W2.heap.size) : vi.ownBlock = none ∨ vi.ownBlock ≠ vz.ownBlock := by
  cases hv : vi.ownBlock with
  | none => exact Or.inl rfl
  | some k =>
    right
    intro he
    have a1 := (h1.1.lt k hv).2
    have a2 := (h2.1.lt k he.symm).1
    omega
theorem apart_earlier {W1 W2 w1 w2 : World} {ei ez : TypeId} {vi vz : Value} {L : List It} {Z : List Int} (h2 : OwnZ W2.heap.size ez vz Z W2 w2) (h1 : OwnI W1.heap.size ei vi L W1 w1) (hb : w2.heap.size ≤ W1.heap.size) : vi.ownBlock = none ∨ vi.ownBlock ≠ vz.ownBlock := by
  cases hv : vi.ownBlock with
  | none => exact Or.inl rfl
  | some k =>
    right
    intro he
    have a1 := (h1.1.lt k hv).1
    have a2 := (h2.1.lt k he.symm).2
    omega

theorem fin_items_first {w W w2 w3 : World} {vi vz a b : Value} {L : List It} {Z : List Int} (hB : Below w.heap.size w W) (hW : w.heap.size + 2 ≤ W.heap.size)
    (h2 : OwnI W.drew.heap.size 33 vi L W.drew w2) (h3 : OwnZ w2.heap.size 3 vz Z w2 w3) :
    OwnVol w.heap.size vi vz ⟨L, Z⟩ w ((w3.setCell ⟨w.heap.size + 1, 0, none⟩ a).setCell ⟨w.heap.size + 1, 1, none⟩ b) := by
  have hW' : w.heap.size + 2 ≤ W.drew.heap.size := hW
  have s2 := h2.2.2
  have hb3 : Below w.heap.size w w3 := (hB.drew.trans (h2.below.mono (by omega))).trans (h3.below.mono (by omega))
  have hbf : Below w.heap.size w ((w3.setCell ⟨w.heap.size + 1, 0, none⟩ a).setCell ⟨w.heap.size + 1, 1, none⟩ b) :=
    (hb3.setCell (p := ⟨w.heap.size + 1, 0, none⟩) (Nat.le_succ _) a).setCell (p := ⟨w.heap.size + 1, 1, none⟩) (Nat.le_succ _) b
  refine ⟨?_, ?_, apart_later h2 h3 (Nat.le_refl _)⟩
  · exact (((h2.past h3.below).setBox (g := w.heap.size + 1) (k := 0) (x := a) (by omega)).setBox (g := w.heap.size + 1) (k := 1) (x := b) (by omega)).lower (by omega) hbf
  · exact ((h3.setBox (g := w.heap.size + 1) (k := 0) (x := a) (by omega)).setBox (g := w.heap.size + 1) (k := 1) (x := b) (by omega)).lower (by omega) hbf
theorem fin_ints_first {w W w2 w3 : World} {vi vz a b : Value} {L : List It} {Z : List Int} (hB : Below w.heap.size w W) (hW : w.heap.size + 2 ≤ W.heap.size)
    (h2 : OwnZ W.drew.heap.size 3 vz Z W.drew w2) (h3 : OwnI w2.heap.size 33 vi L w2 w3) :
    OwnVol w.heap.size vi vz ⟨L, Z⟩ w ((w3.setCell ⟨w.heap.size + 1, 0, none⟩ a).setCell ⟨w.heap.size + 1, 1, none⟩ b) := by
  have hW' : w.heap.size + 2 ≤ W.drew.heap.size := hW
  have s2 := h2.2.2
  have hb3 : Below w.heap.size w w3 := (hB.drew.trans (h2.below.mono (by omega))).trans (h3.below.mono (by omega))
  have hbf : Below w.heap.size w ((w3.setCell ⟨w.heap.size + 1, 0, none⟩ a).setCell ⟨w.heap.size + 1, 1, none⟩ b) :=
    (hb3.setCell (p := ⟨w.heap.size + 1, 0, none⟩) (Nat.le_succ _) a).setCell (p := ⟨w.heap.size + 1, 1, none⟩) (Nat.le_succ _) b
  refine ⟨?_, ?_, apart_earlier h2 h3 (Nat.le_refl _)⟩
  · exact ((h3.setBox (g := w.heap.size + 1) (k := 0) (x := a) (by omega)).setBox (g := w.heap.size + 1) (k := 1) (x := b) (by omega)).lower (by omega) hbf
  · exact (((h2.past h3.below).setBox (g := w.heap.size + 1) (k := 0) (x := a) (by omega)).setBox (g := w.heap.size + 1) (k := 1) (x := b) (by omega)).lower (by omega) hbf
end Go.Proofs.YtajjhjabehiikabDoor
