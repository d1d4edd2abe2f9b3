/- The state of the two loops that apply writes: a volume in a box, its blocks in a row. Condition: as its statements list. -/
import Derived.Test.YtajjhjabehiikabDoorPast22
import Derived.Test.YtajjhjabehiikabDoorVolOwn
import Derived.Test.YtajjhjabehiikabDoorWrites
import Derived.Test.YtajjhjabehiikabDoorKeptMath
namespace Go.Proofs.YtajjhjabehiikabDoor
open Go.RowKit

theorem row_setOther {B size g k : Nat} {e : TypeId} {v x : Value} {n : Nat} {xs : List Value} {w : World} (h : w.ownsRow B e size v n xs) (hg : v.ownBlock ≠ some g) : (w.setCell ⟨g, k, none⟩ x).ownsRow B e size v n xs := by
  refine ⟨h.1, ?_⟩
  rcases h.2 with hn | ⟨b, cap, cur, hv, hB, hb, rest⟩
  · exact .inl hn
  · have hne : b ≠ g := by
      subst hv
      intro e
      exact hg (by rw [← e]; rfl)
    exact .inr ⟨b, cap, cur, hv, hB, by rw [Below.heap_setCell _ _ _ _ hne]; exact hb, rest⟩
theorem row_past {B size : Nat} {e : TypeId} {v : Value} {n : Nat} {xs : List Value} {w w' : World} (h : w.ownsRow B e size v n xs) (hb : Below w.heap.size w w') : w'.ownsRow B e size v n xs := by
  refine ⟨h.1, ?_⟩
  rcases h.2 with hn | ⟨b, cap, cur, hv, hB, hg, rest⟩
  · exact .inl hn
  · exact .inr ⟨b, cap, cur, hv, hB, by rw [hb.block b (Array.getElem?_eq_some_iff.1 hg).1]; exact hg, rest⟩
theorem row_weak {B B' size : Nat} {e : TypeId} {v : Value} {n : Nat} {xs : List Value} {w : World} (h : w.ownsRow B' e size v n xs) (hB : B ≤ B') : w.ownsRow B e size v n xs := by
  refine ⟨h.1, ?_⟩
  rcases h.2 with hn | ⟨b, cap, cur, hv, hb, rest⟩
  · exact .inl hn
  · exact .inr ⟨b, cap, cur, hv, Nat.le_trans hB hb, rest⟩

/-- the state of the two loops: out lies in block O, the result in block R, out's blocks in row g -/
structure ApSt (B O R g cap : Nat) (wr : World) (vi : Value) (V : Vol) : Prop where
  o0 : wr.cell? ⟨O, 0, none⟩ = some vi
  o1 : wr.cell? ⟨O, 1, none⟩ = some (.slice (some ⟨g, 0, none⟩) V.blocks.length cap)
  fo : wr.frozen? ⟨O, 0, none⟩ = false
  r0 : wr.cell? ⟨R, 0, none⟩ = some (.slice none 0 0)
  r1 : wr.cell? ⟨R, 1, none⟩ = some (.slice none 0 0)
  f0 : wr.frozen? ⟨R, 0, none⟩ = false
  f1 : wr.frozen? ⟨R, 1, none⟩ = false
  oi : wr.ownsRow B 33 3 vi V.items.length (icells V.items)
  oz : wr.ownsRow B 3 1 (.slice (some ⟨g, 0, none⟩) V.blocks.length cap) V.blocks.length (zcells V.blocks)
  nO : vi.ownBlock ≠ some O
  ng : vi.ownBlock ≠ some g
  hR : R < B
  hg : B ≤ g
  hgO : g < O
  hO : O < wr.heap.size
theorem ApSt.past {B O R g cap : Nat} {wr w' : World} {vi : Value} {V : Vol} (h : ApSt B O R g cap wr vi V) (hb : Below wr.heap.size wr w') : ApSt B O R g cap w' vi V := by
  have hO := h.hO
  have hR : R < wr.heap.size := by have := h.hR; have := h.hg; have := h.hgO; omega
  exact ⟨(hb.cell (p := ⟨O, 0, none⟩) hO).trans h.o0, (hb.cell (p := ⟨O, 1, none⟩) hO).trans h.o1, (hb.frozen (p := ⟨O, 0, none⟩) hO).trans h.fo,
    (hb.cell (p := ⟨R, 0, none⟩) hR).trans h.r0, (hb.cell (p := ⟨R, 1, none⟩) hR).trans h.r1, (hb.frozen (p := ⟨R, 0, none⟩) hR).trans h.f0, (hb.frozen (p := ⟨R, 1, none⟩) hR).trans h.f1,
    row_past h.oi hb, row_past h.oz hb, h.nO, h.ng, h.hR, h.hg, h.hgO, Nat.lt_of_lt_of_le hO hb.size⟩
theorem ApSt.drew {B O R g cap : Nat} {wr : World} {vi : Value} {V : Vol} (h : ApSt B O R g cap wr vi V) : ApSt B O R g cap wr.drew vi V := h.past (Below.refl _ _).drew
theorem ApSt.items {B O R g cap : Nat} {wr : World} {vi : Value} {V : Vol} (h : ApSt B O R g cap wr vi V) (hl : V.items.length ≤ 1000) : ItemsAt wr vi V.items :=
  OwnI.items (B := B) (W0 := wr) ⟨h.oi, Below.refl _ _, by have := h.hO; have := h.hg; have := h.hgO; omega⟩ (by omega)
theorem ApSt.block {B O R g cap : Nat} {wr : World} {vi : Value} {V : Vol} (h : ApSt B O R g cap wr vi V) {k : Nat} {z : Int} (hz : V.blocks[k]? = some z) :
    wr.cell? ⟨g, k, none⟩ = some (.int .i64 z) ∧ wr.frozen? ⟨g, k, none⟩ = false := by
  have := OwnZ.cell (B := B) (W0 := wr) ⟨h.oz, Below.refl _ _, by have := h.hO; have := h.hg; have := h.hgO; omega⟩ hz
  exact ⟨this.1, this.2.1 k⟩
/-- new items, and a block's cell -/
theorem ApSt.step {B O R g cap : Nat} {wr w2 : World} {vi v2 : Value} {V : Vol} {I : List It} {k : Nat} (h : ApSt B O R g cap wr vi V) (h2 : OwnI wr.heap.size 33 v2 I wr w2) (hk : k < V.blocks.length) (z : Int) :
    ApSt B O R g cap ((w2.setCell ⟨O, 0, none⟩ v2).setCell ⟨g, k, none⟩ (.int .i64 z)) v2 ⟨I, V.blocks.set k z⟩ := by
  have hp := h.past h2.below
  have hO := h.hO
  have hg := h.hg
  have hgO := h.hgO
  have hR := h.hR
  have nO2 : v2.ownBlock ≠ some O := fun e => by have := (h2.1.lt _ e).1; omega
  have ng2 : v2.ownBlock ≠ some g := fun e => by have := (h2.1.lt _ e).1; omega
  have hne1 : (⟨O, 0, none⟩ : Addr) ≠ ⟨O, 1, none⟩ := by simp
  have hgo : (⟨g, k, none⟩ : Addr) ≠ ⟨O, 0, none⟩ := by intro e; injection e; omega
  have hgo1 : (⟨g, k, none⟩ : Addr) ≠ ⟨O, 1, none⟩ := by intro e; injection e; omega
  have hr : ∀ j, (⟨O, 0, none⟩ : Addr) ≠ ⟨R, j, none⟩ := fun j => by intro e; injection e; omega
  have hr2 : ∀ j, (⟨g, k, none⟩ : Addr) ≠ ⟨R, j, none⟩ := fun j => by intro e; injection e; omega
  have hoz : (w2.setCell ⟨O, 0, none⟩ v2).ownsRow B 3 1 (.slice (some ⟨g, 0, none⟩) V.blocks.length cap) V.blocks.length (zcells V.blocks) := row_setOther hp.oz (by simp [Value.ownBlock]; omega)
  have hozz : OwnZ B 3 (.slice (some ⟨g, 0, none⟩) V.blocks.length cap) V.blocks (w2.setCell ⟨O, 0, none⟩ v2) (w2.setCell ⟨O, 0, none⟩ v2) := ⟨hoz, Below.refl _ _, by rw [size_setCell]; have := hp.hO; omega⟩
  have hset := hozz.set hk z
  refine ⟨?_, ?_, ?_, ?_, ?_, ?_, ?_, ?_, ?_, nO2, ng2, hR, hg, hgO, ?_⟩
  · exact (World.cell?_setCell_other _ _ _ _ hgo).trans (World.cell?_setCell_same _ _ _ hp.o0)
  · show _ = some (Value.slice (some ⟨g, 0, none⟩) (V.blocks.set k z).length cap)
    rw [List.length_set]
    exact (World.cell?_setCell_other _ _ _ _ hgo1).trans ((World.cell?_setCell_other _ _ _ _ hne1).trans hp.o1)
  · simp [hp.fo]
  · exact (World.cell?_setCell_other _ _ _ _ (hr2 0)).trans ((World.cell?_setCell_other _ _ _ _ (hr 0)).trans hp.r0)
  · exact (World.cell?_setCell_other _ _ _ _ (hr2 1)).trans ((World.cell?_setCell_other _ _ _ _ (hr 1)).trans hp.r1)
  · simp [hp.f0]
  · simp [hp.f1]
  · exact row_weak (B' := wr.heap.size) (row_setOther (row_setOther h2.1 nO2) ng2) (by omega)
  · have := hset.1
    show World.ownsRow _ B _ 1 (.slice (some ⟨g, 0, none⟩) (V.blocks.set k z).length cap) _ _
    rw [List.length_set] at this ⊢
    exact this
  · rw [size_setCell, size_setCell]; exact hp.hO

theorem dropW_len (V : Vol) (x : Wr) : (dropW V x).blocks.length = V.blocks.length := by
  unfold dropW
  split
  · split <;> simp
  · rfl
theorem dropAll_len : ∀ (W : List Wr) (V : Vol), (W.foldl dropW V).blocks.length = V.blocks.length
  | [], _ => rfl
  | x :: W, V => by rw [List.foldl_cons, dropAll_len W, dropW_len]
theorem dropped_le (L : List It) (id : Int) : (dropped L id).1.length ≤ L.length := by
  unfold dropped
  split
  · simp
  · exact fm_len _ _
theorem dropW_le (V : Vol) (x : Wr) : (dropW V x).items.length ≤ V.items.length := by
  unfold dropW
  split
  · split
    · exact dropped_le _ _
    · exact Nat.le_refl _
  · exact Nat.le_refl _
theorem dropAll_le : ∀ (W : List Wr) (V : Vol), (W.foldl dropW V).items.length ≤ V.items.length
  | [], _ => Nat.le_refl _
  | x :: W, V => by rw [List.foldl_cons]; exact Nat.le_trans (dropAll_le W _) (dropW_le V x)
theorem fold_snoc {W : List Wr} {k : Nat} {x : Wr} (hx : W[k]? = some x) (V : Vol) : (W.take (k + 1)).foldl dropW V = dropW ((W.take k).foldl dropW V) x := by
  rw [take_snoc hx, List.foldl_append]; rfl
theorem dropW_some {V : Vol} {x : Wr} {z : Int} (hz : V.blocks[x.block.toNat]? = some z) (h0 : 0 ≤ z) : dropW V x = ⟨(dropped V.items z).1, V.blocks.set x.block.toNat (-1)⟩ := by
  unfold dropW; rw [hz]; simp only; rw [if_pos h0]
theorem dropW_none {V : Vol} {x : Wr} {z : Int} (hz : V.blocks[x.block.toNat]? = some z) (h0 : ¬ 0 ≤ z) : dropW V x = V := by
  unfold dropW; rw [hz]; simp only; rw [if_neg h0]
theorem used_le' (L : List It) (id : Int) : (used L id).1.length ≤ L.length := by
  unfold used
  split
  · simp
  · split
    · simp
    · split <;> simp
theorem kept_len (L : List It) (d : ByteArray) : (kept L d).1.length ≤ 49 := by
  unfold kept
  split
  · simp
  · rename_i hm
    have hl := may_len (by simpa using hm)
    split
    · simp
    · split
      · split
        · simp
        · have := used_le' L (L[‹Nat›]?.getD It.zero).id
          simp only; omega
      · split
        · simp
        · have h1 := List.length_filter_le (fun x : It => decide (x.id < (freeId L : Int))) L
          have h2 := List.length_filter_le (fun x : It => decide ((freeId L : Int) < x.id)) L
          simp only [List.length_append, List.length_singleton]; omega
theorem keepW_len (V : Vol) (x : Wr) (h : (keepW V x).2 = 0) : (keepW V x).1.blocks.length = V.blocks.length := by
  unfold keepW at h ⊢
  split
  · rename_i hd
    rw [if_pos hd] at h
    split
    · simp
    · rename_i hk; rw [if_neg hk] at h; exact absurd h hk
  · rfl
theorem keepAll_go {V : Vol} {x : Wr} {W : List Wr} (h : (keepW V x).2 = 0) : keepAll V (x :: W) = keepAll (keepW V x).1 W := by
  show (if _ then _ else _) = _; rw [if_pos h]
theorem keepAll_stop {V : Vol} {x : Wr} {W : List Wr} (h : (keepW V x).2 ≠ 0) : keepAll V (x :: W) = (⟨[], []⟩, (keepW V x).2) := by
  show (if _ then _ else _) = _; rw [if_neg h]

theorem RetVol.none {n : Int} {w w' : World} (hb : Below w.heap.size w w') : RetVol ⟨[], []⟩ n w (.returned (.tuple #[.agg #[.slice none 0 0, .slice none 0 0], .int .i64 n])) w' := ⟨_, _, rfl, OwnVol.none hb hb.size⟩
/-- the state's end -/
theorem ApSt.done {B O g cap : Nat} {w wr : World} {vi : Value} {V : Vol} (h : ApSt B O (w.heap.size + 1) g cap wr vi V) (hB : w.heap.size + 2 = B) (hb : Below w.heap.size w wr) (a b : Value) :
    OwnVol w.heap.size vi (.slice (some ⟨g, 0, none⟩) V.blocks.length cap) V w ((wr.setCell ⟨w.heap.size + 1, 0, none⟩ a).setCell ⟨w.heap.size + 1, 1, none⟩ b) := by
  have hO := h.hO
  have hg := h.hg
  have hgO := h.hgO
  have hbf : Below w.heap.size w ((wr.setCell ⟨w.heap.size + 1, 0, none⟩ a).setCell ⟨w.heap.size + 1, 1, none⟩ b) :=
    (hb.setCell (p := ⟨w.heap.size + 1, 0, none⟩) (Nat.le_succ _) a).setCell (p := ⟨w.heap.size + 1, 1, none⟩) (Nat.le_succ _) b
  refine ⟨⟨row_weak (B' := B) (row_setBox (row_setBox h.oi (by omega)) (by omega)) (by omega), hbf, hbf.size⟩, ⟨row_weak (B' := B) (row_setBox (row_setBox h.oz (by omega)) (by omega)) (by omega), hbf, hbf.size⟩, Or.inr (fun e => h.ng e)⟩

theorem Past22.frz {w wr : World} {a b c d : Value} {T : TypeId} (h : Past22 w a b c d T wr) : wr.frozen? ⟨w.heap.size + 1, 0, none⟩ = false ∧ wr.frozen? ⟨w.heap.size + 1, 1, none⟩ = false ∧ w.heap.size + 2 ≤ wr.heap.size := by
  refine ⟨?_, ?_, ?_⟩
  · rw [Below.frozen h (p := ⟨w.heap.size + 1, 0, none⟩) (by simp)]; simp
  · rw [Below.frozen h (p := ⟨w.heap.size + 1, 1, none⟩) (by simp)]; simp
  · have := h.size; simpa using this
theorem Past22.next {w wr w2 : World} {a b c d : Value} {T : TypeId} (h : Past22 w a b c d T wr) (h2 : Below wr.heap.size wr w2) : Past22 w a b c d T w2 := below_then h h2
theorem below_res {w wr : World} (hb : Below w.heap.size w wr) (a b : Value) : Below w.heap.size w ((wr.setCell ⟨w.heap.size + 1, 0, none⟩ a).setCell ⟨w.heap.size + 1, 1, none⟩ b) :=
  (hb.setCell (p := ⟨w.heap.size + 1, 0, none⟩) (Nat.le_succ _) a).setCell (p := ⟨w.heap.size + 1, 1, none⟩) (Nat.le_succ _) b
theorem applied_ok {V : Vol} {W : List Wr} (hm : volB V = true) (hf : wFault W V.blocks.length = 0) : applied V W = keepAll (W.foldl dropW V) W := by
  unfold applied; rw [if_neg (by simp [hm]), if_neg (by simp [hf])]
theorem wf_all {W : List Wr} {n : Nat} (h : wFault W (n : Int) = 0) {k : Nat} {x : Wr} (hx : W[k]? = some x) : 0 ≤ x.block ∧ x.block < (n : Int) ∧ x.data.size ≤ 48 := (wFault_ok h).all x (List.mem_of_getElem? hx)

theorem ApSt.isSlice {B O R g cap : Nat} {wr : World} {vi : Value} {V : Vol} (h : ApSt B O R g cap wr vi V) : ∃ p c, vi = .slice p V.items.length c := by
  rcases h.oi.2 with ⟨rfl, hn⟩ | ⟨_, cap, _, rfl, _⟩
  · exact ⟨none, 0, by rw [hn]⟩
  · exact ⟨_, cap, rfl⟩
theorem keepW_le (V : Vol) (x : Wr) (h : V.items.length ≤ 49) : (keepW V x).1.items.length ≤ 49 := by
  unfold keepW
  split
  · split
    · exact kept_len _ _
    · simp
  · exact h
theorem ApSt.start {w w2 w3 : World} {a b : Value} {vi : Value} {g cap n : Nat} {V : Vol} (hP : Past22 w a b (.slice none 0 0) (.slice none 0 0) 26 w2)
    (hn : n = V.blocks.length) (hown : OwnVol w2.heap.size vi (.slice (some ⟨g, 0, none⟩) n cap) V w2 w3) :
    ApSt (w.heap.size + 2) w3.heap.size (w.heap.size + 1) g cap (w3.alloc (.cells #[vi, .slice (some ⟨g, 0, none⟩) n cap] 26)) vi V := by
  subst hn
  have hP3 := hP.next hown.below
  obtain ⟨_, _, b0, b1⟩ := hP3.cells
  obtain ⟨g0, g1, hs3⟩ := hP3.frz
  have hs2 := hP.frz.2.2
  have hgl := hown.2.1.1.lt g rfl
  have hne0 : w.heap.size + 1 ≠ w3.heap.size := by omega
  refine ⟨by simp, by simp, by simp, ?_, ?_, ?_, ?_, row_weak (hown.1.1.alloc _) hs2, row_weak (hown.2.1.1.alloc _) hs2, ?_, ?_, by omega, by omega, hgl.2, by simp⟩
  · rw [World.cell?_alloc_lt _ _ _ (show w.heap.size + 1 < w3.heap.size by omega)]; exact b0
  · rw [World.cell?_alloc_lt _ _ _ (show w.heap.size + 1 < w3.heap.size by omega)]; exact b1
  · have := (below_alloc (Below.refl w3.heap.size w3) (.cells #[vi, .slice (some ⟨g, 0, none⟩) V.blocks.length cap] 26)).frozen (p := ⟨w.heap.size + 1, 0, none⟩) (show w.heap.size + 1 < w3.heap.size by omega)
    rw [this]; exact g0
  · have := (below_alloc (Below.refl w3.heap.size w3) (.cells #[vi, .slice (some ⟨g, 0, none⟩) V.blocks.length cap] 26)).frozen (p := ⟨w.heap.size + 1, 1, none⟩) (show w.heap.size + 1 < w3.heap.size by omega)
    rw [this]; exact g1
  · intro e; have := (hown.1.1.lt _ e).2; omega
  · intro e
    rcases hown.2.2 with h | h
    · rw [h] at e; cases e
    · exact h e
end Go.Proofs.YtajjhjabehiikabDoor
