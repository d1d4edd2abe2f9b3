/- The engine's state in memory: a block of eight cells, the volume's and the saved volume's slices, the row of the open transaction's writes; what changes it and what leaves it alone. No condition. -/
import Derived.Test.YthjaanhkmfiajacPure
import Derived.Test.YthjaanhkmfiajacEngPure
import Derived.Test.YthjaanhkmfiajacChecked
import Derived.Deep.Cut
import Derived.Deep.LoopGhost
import Derived.BigQuiet
import Derived.Deep.QuietTactic
import Derived.IntWalk
import Derived.Lib.Hide
import Derived.Outline
import Derived.StillTailTactics
import Derived.Deep.RegionHeld3
import Derived.Deep.RegionLaw
namespace Go.Proofs.Ythjaanhkmfiajac
open Go.RowKit
open LM

/-- the value u is nil, or lies in a block of cells of type T -/
def InTy (w : World) (u : Value) (T : TypeId) : Prop := ∀ p n c, u = .slice (some p) n c → ∃ cur fr, w.heap[p.block]? = some (.cells cur T fr)
/-- blocks of other types than the state's and the writes' are as they were -/
structure Soft (w w' : World) : Prop where
  os : w'.os = w.os
  tape : w'.tape = w.tape
  output : w'.output = w.output
  size : w.heap.size ≤ w'.heap.size
  block : ∀ (k : Nat) cur T fr, w.heap[k]? = some (.cells cur T fr) → T ≠ 39 → T ≠ 61 → w'.heap[k]? = w.heap[k]?
theorem Soft.refl (w : World) : Soft w w := ⟨rfl, rfl, rfl, Nat.le_refl _, fun _ _ _ _ _ _ _ => rfl⟩
theorem Soft.trans {a b c : World} (h : Soft a b) (k : Soft b c) : Soft a c :=
  ⟨k.os.trans h.os, k.tape.trans h.tape, k.output.trans h.output, Nat.le_trans h.size k.size, fun i cur T fr hi h1 h2 => by
    have e := h.block i cur T fr hi h1 h2
    exact (k.block i cur T fr (e.trans hi) h1 h2).trans e⟩
theorem Soft.of_below {w w' : World} (h : Below w.heap.size w w') : Soft w w' :=
  ⟨h.os, h.tape, h.output, h.size, fun k _ _ _ hk _ _ => h.block k (Array.getElem?_eq_some_iff.1 hk).1⟩
theorem Soft.setCell {w : World} {p : Addr} {x : Value} {cur : Array Value} {T : TypeId} {fr : Nat × Nat} (hp : w.heap[p.block]? = some (.cells cur T fr)) (hT : T = 39 ∨ T = 61) : Soft w (w.setCell p x) :=
  ⟨rfl, rfl, rfl, by simp [World.setCell], fun k cur' T' fr' hk h1 h2 => Below.heap_setCell _ _ _ _ (fun e => by
    rw [e, hp] at hk
    simp only [Option.some.injEq, Obj.cells.injEq] at hk
    rcases hT with h | h
    · exact h1 (hk.2.1.symm.trans h)
    · exact h2 (hk.2.1.symm.trans h))⟩
theorem Soft.grown {w w' : World} {B size n : Nat} {v : Value} {xs : List Value} (hrow : w.ownsRow B 61 size v n xs) (hg : w.grownBy w' v.ownBlock) : Soft w w' :=
  ⟨hg.os, hg.tape, hg.output, hg.size, fun k _ _ _ hk _ h2 => hg.block k (Array.getElem?_eq_some_iff.1 hk).1 (type_apart (fun e => h2 e.symm) hrow hk)⟩
theorem Soft.cells {w w' : World} (h : Soft w w') {k : Nat} {cur : Array Value} {T : TypeId} {fr : Nat × Nat} (hk : w.heap[k]? = some (.cells cur T fr)) (h1 : T ≠ 39) (h2 : T ≠ 61) :
    w'.heap[k]? = some (.cells cur T fr) := (h.block k cur T fr hk h1 h2).trans hk
theorem Soft.row {w w' : World} (h : Soft w w') {B size n : Nat} {e : TypeId} {v : Value} {xs : List Value} (hrow : w.ownsRow B e size v n xs) (h1 : e ≠ 39) (h2 : e ≠ 61) : w'.ownsRow B e size v n xs := by
  refine ⟨hrow.1, ?_⟩
  rcases hrow.2 with hn | ⟨g, cap, cur, hv, hB, hg, rest⟩
  · exact .inl hn
  · exact .inr ⟨g, cap, cur, hv, hB, h.cells hg h1 h2, rest⟩

/-- the two slices of a volume, each in a block of its elements' type -/
structure VolTy (w : World) (vi vb : Value) (V : Vol) : Prop where
  items : ItemsAt w vi V.items
  ints : IntsAt w vb V.blocks
  ti : InTy w vi 55
  tb : InTy w vb 3
theorem VolTy.at {w : World} {vi vb : Value} {V : Vol} (h : VolTy w vi vb V) : VolAt w (.agg #[vi, vb]) V := ⟨vi, vb, rfl, h.items, h.ints⟩
/-- whatever leaves the two blocks alone -/
theorem VolTy.of {w w' : World} {vi vb : Value} {V : Vol} (h : VolTy w vi vb V) (hs : w.heap.size ≤ w'.heap.size)
    (hb : ∀ (k : Nat) cur T fr, w.heap[k]? = some (.cells cur T fr) → T = 55 ∨ T = 3 → w'.heap[k]? = w.heap[k]?) : VolTy w' vi vb V := by
  obtain ⟨⟨p, cap, rfl, hl, hn, hc⟩, ⟨q, cap', rfl, hl', hn', hc'⟩, hti, htb⟩ := h
  refine ⟨⟨p, cap, rfl, hl, hn, fun i x hx => ?_⟩, ⟨q, cap', rfl, hl', hn', fun i x hx => ?_⟩, fun p' n c hu => ?_, fun p' n c hu => ?_⟩
  · obtain ⟨b, off, hp, hlt, c0, c1, c2⟩ := hc i x hx
    obtain ⟨cur, fr, hk⟩ := hti ⟨b, off, none⟩ _ _ (by rw [hp])
    have e := hb b cur _ fr hk (.inl rfl)
    exact ⟨b, off, hp, Nat.lt_of_lt_of_le hlt hs, (World.cell?_of_block e).trans c0, (World.cell?_of_block e).trans c1, (World.cell?_of_block e).trans c2⟩
  · obtain ⟨b, off, hp, hlt, c0⟩ := hc' i x hx
    obtain ⟨cur, fr, hk⟩ := htb ⟨b, off, none⟩ _ _ (by rw [hp])
    have e := hb b cur _ fr hk (.inr rfl)
    exact ⟨b, off, hp, Nat.lt_of_lt_of_le hlt hs, (World.cell?_of_block e).trans c0⟩
  · obtain ⟨cur, fr, hk⟩ := hti p' n c hu
    exact ⟨cur, fr, (hb _ cur _ fr hk (.inl rfl)).trans hk⟩
  · obtain ⟨cur, fr, hk⟩ := htb p' n c hu
    exact ⟨cur, fr, (hb _ cur _ fr hk (.inr rfl)).trans hk⟩
theorem VolTy.soft {w w' : World} {vi vb : Value} {V : Vol} (h : VolTy w vi vb V) (hs : Soft w w') : VolTy w' vi vb V :=
  h.of hs.size (fun k cur T fr hk hT => hs.block k cur T fr hk (by rcases hT with rfl | rfl <;> decide) (by rcases hT with rfl | rfl <;> decide))
theorem VolTy.keep {w w' : World} {vi vb : Value} {V : Vol} (h : VolTy w vi vb V) (hb : Below w.heap.size w w') : VolTy w' vi vb V := h.soft (.of_below hb)
theorem OwnVol.ty {B : Nat} {vi vb : Value} {V : Vol} {W0 w : World} (h : OwnVol B vi vb V W0 w) (h1 : V.items.length ≤ 140737488355328) (h2 : V.blocks.length ≤ 140737488355328) : VolTy w vi vb V := by
  refine ⟨h.1.items h1, h.2.1.ints h2, fun p n c hu => ?_, fun p n c hu => ?_⟩
  · subst hu
    obtain ⟨cur, hc⟩ := row_type h.1.1 p.block rfl
    exact ⟨cur, _, hc⟩
  · subst hu
    obtain ⟨cur, hc⟩ := row_type h.2.1.1 p.block rfl
    exact ⟨cur, _, hc⟩
theorem VOk.small {V : Vol} (h : VOk V) : V.items.length ≤ 24 ∧ V.blocks.length ≤ 32 := ⟨may_len h.may, h.len.2⟩

/-- block g holds a state; B: all below is as it was in W0 -/
structure StC (B : Nat) (W0 w : World) (g : Nat) (V S : Vol) (lg : ByteArray) (du : Int) (op : Bool) (L : List Wr) (vi vb si sb wv : Value) : Prop where
  ge : B ≤ g
  ty : ∃ cur fr, w.heap[g]? = some (.cells cur 39 fr)
  fz : ∀ j, w.frozen? ⟨g, j, none⟩ = false
  c0 : w.cell? ⟨g, 0, none⟩ = some vi
  c1 : w.cell? ⟨g, 1, none⟩ = some vb
  c2 : w.cell? ⟨g, 2, none⟩ = some si
  c3 : w.cell? ⟨g, 3, none⟩ = some sb
  c4 : w.cell? ⟨g, 4, none⟩ = some (.string lg)
  c5 : w.cell? ⟨g, 5, none⟩ = some (.int .i64 du)
  c6 : w.cell? ⟨g, 6, none⟩ = some (.bool op)
  c7 : w.cell? ⟨g, 7, none⟩ = some wv
  vol : VolTy w vi vb V
  saved : VolTy w si sb S
  writes : OwnW B 61 wv L W0 w
section
variable {B : Nat} {W0 w w' : World} {g : Nat} {V S : Vol} {lg : ByteArray} {du : Int} {op : Bool} {L : List Wr} {vi vb si sb wv : Value}
theorem StC.lt (h : StC B W0 w g V S lg du op L vi vb si sb wv) : g < w.heap.size := by
  obtain ⟨cur, fr, hk⟩ := h.ty
  exact (Array.getElem?_eq_some_iff.1 hk).1
theorem StC.below (h : StC B W0 w g V S lg du op L vi vb si sb wv) : Below B W0 w := h.writes.below
theorem StC.off (h : StC B W0 w g V S lg du op L vi vb si sb wv) : wv.ownBlock ≠ some g := by
  intro he
  obtain ⟨cur, fr, hk⟩ := h.ty
  exact type_apart (by decide) h.writes.1 hk he.symm
theorem StC.keep (h : StC B W0 w g V S lg du op L vi vb si sb wv) (hb : Below w.heap.size w w') : StC B W0 w' g V S lg du op L vi vb si sb wv := by
  have hg := h.lt
  have hc : ∀ j, w'.cell? ⟨g, j, none⟩ = w.cell? ⟨g, j, none⟩ := fun j => hb.cell (p := ⟨g, j, none⟩) hg
  obtain ⟨cur, fr, hk⟩ := h.ty
  exact ⟨h.ge, ⟨cur, fr, (hb.block g hg).trans hk⟩, fun j => (hb.frozen (p := ⟨g, j, none⟩) hg).trans (h.fz j), (hc 0).trans h.c0, (hc 1).trans h.c1, (hc 2).trans h.c2, (hc 3).trans h.c3, (hc 4).trans h.c4, (hc 5).trans h.c5, (hc 6).trans h.c6, (hc 7).trans h.c7, h.vol.keep hb, h.saved.keep hb, h.writes.past hb⟩
/-- a row of another type of the caller's grows -/
theorem StC.apart (h : StC B W0 w g V S lg du op L vi vb si sb wv) {B' size m : Nat} {e : TypeId} {v : Value} {xs : List Value}
    (h1 : e ≠ 39) (h2 : e ≠ 61) (h3 : e ≠ 55) (h4 : e ≠ 3) (hrow : w.ownsRow B' e size v m xs) (hB : B ≤ B') (hg : w.grownBy w' v.ownBlock) : StC B W0 w' g V S lg du op L vi vb si sb wv := by
  obtain ⟨cur, fr, hk⟩ := h.ty
  have hgl := h.lt
  have eb := hg.block g hgl (type_apart h1 hrow hk)
  have hc : ∀ j, w'.cell? ⟨g, j, none⟩ = w.cell? ⟨g, j, none⟩ := fun j => World.cell?_of_block (a := ⟨g, j, none⟩) eb
  have hv : ∀ {vi vb V}, VolTy w vi vb V → VolTy w' vi vb V := fun hv => hv.of hg.size (fun k cur T fr hk hT => hg.block k (Array.getElem?_eq_some_iff.1 hk).1 (by
    rcases hT with rfl | rfl
    · exact type_apart h3 hrow hk
    · exact type_apart h4 hrow hk))
  refine ⟨h.ge, ⟨cur, fr, eb.trans hk⟩, fun j => (World.frozen?_of_block (a := ⟨g, j, none⟩) eb).trans (h.fz j), (hc 0).trans h.c0, (hc 1).trans h.c1, (hc 2).trans h.c2, (hc 3).trans h.c3, (hc 4).trans h.c4, (hc 5).trans h.c5, (hc 6).trans h.c6, (hc 7).trans h.c7, hv h.vol, hv h.saved, ?_⟩
  obtain ⟨w1, w2, w3⟩ := h.writes
  refine ⟨w1.kept hg ?_, w2.grown hg w3 (fun k hk => Nat.le_trans hB (hrow.lt k hk).1), Nat.le_trans w3 hg.size⟩
  cases hwv : wv.ownBlock with
  | none => exact .inl rfl
  | some k =>
    obtain ⟨cur', hk'⟩ := row_type w1 k hwv
    exact .inr (type_apart h2 hrow hk')
/-- a store into a block of the call's own leaves a row that lies elsewhere -/
theorem own_set {e : TypeId} {v x : Value} {j : Nat} (h : OwnW B e v L W0 w) (hB : B ≤ g) (hne : v.ownBlock ≠ some g) : OwnW B e v L W0 (w.setCell ⟨g, j, none⟩ x) := by
  obtain ⟨h1, h2, h3⟩ := h
  refine ⟨⟨h1.1, ?_⟩, h2.setCell (p := ⟨g, j, none⟩) hB x, by rw [size_setCell]; exact h3⟩
  rcases h1.2 with hn | ⟨b, cap, cur, hv, hb, hbb, rest⟩
  · exact .inl hn
  · exact .inr ⟨b, cap, cur, hv, hb, by rw [Below.heap_setCell _ _ _ _ (show b ≠ g from fun e => hne (by rw [hv, e]; rfl))]; exact hbb, rest⟩
theorem ty_set {T : TypeId} {j : Nat} {x : Value} (h : ∃ cur fr, w.heap[g]? = some (.cells cur T fr)) : ∃ cur fr, (w.setCell ⟨g, j, none⟩ x).heap[g]? = some (.cells cur T fr) := by
  obtain ⟨cur, fr, hk⟩ := h
  simp only [World.setCell, Array.getElem?_modify, if_true, hk, Option.map_some]
  exact ⟨_, _, rfl⟩
theorem StC.soft (h : StC B W0 w g V S lg du op L vi vb si sb wv) (j : Nat) (x : Value) : Soft w (w.setCell ⟨g, j, none⟩ x) := by
  obtain ⟨cur, fr, hk⟩ := h.ty
  exact Soft.setCell hk (.inl rfl)
theorem cell_new {j : Nat} {x y : Value} (h : w.cell? ⟨g, j, none⟩ = some y) : (w.setCell ⟨g, j, none⟩ x).cell? ⟨g, j, none⟩ = some x := World.cell?_setCell_same _ _ _ h
theorem cell_old {i j : Nat} {x : Value} {r : Option Value} (hne : i ≠ j) (h : w.cell? ⟨g, j, none⟩ = r) : (w.setCell ⟨g, i, none⟩ x).cell? ⟨g, j, none⟩ = r := by
  rw [World.cell?_setCell_other _ _ _ _ (by intro e; cases e; exact hne rfl)]
  exact h
theorem fz_set {j : Nat} {x : Value} (h : ∀ j, w.frozen? ⟨g, j, none⟩ = false) : ∀ i, (w.setCell ⟨g, j, none⟩ x).frozen? ⟨g, i, none⟩ = false := fun i => by
  rw [World.frozen?_setCell]
  exact h i
theorem StC.setLog (h : StC B W0 w g V S lg du op L vi vb si sb wv) (lg' : ByteArray) : StC B W0 (w.setCell ⟨g, 4, none⟩ (.string lg')) g V S lg' du op L vi vb si sb wv :=
  ⟨h.ge, ty_set h.ty, fz_set h.fz, cell_old (by decide) h.c0, cell_old (by decide) h.c1, cell_old (by decide) h.c2, cell_old (by decide) h.c3, cell_new h.c4, cell_old (by decide) h.c5, cell_old (by decide) h.c6, cell_old (by decide) h.c7, h.vol.soft (h.soft _ _), h.saved.soft (h.soft _ _), own_set h.writes h.ge h.off⟩
theorem StC.setDur (h : StC B W0 w g V S lg du op L vi vb si sb wv) (du' : Int) : StC B W0 (w.setCell ⟨g, 5, none⟩ (.int .i64 du')) g V S lg du' op L vi vb si sb wv :=
  ⟨h.ge, ty_set h.ty, fz_set h.fz, cell_old (by decide) h.c0, cell_old (by decide) h.c1, cell_old (by decide) h.c2, cell_old (by decide) h.c3, cell_old (by decide) h.c4, cell_new h.c5, cell_old (by decide) h.c6, cell_old (by decide) h.c7, h.vol.soft (h.soft _ _), h.saved.soft (h.soft _ _), own_set h.writes h.ge h.off⟩
theorem StC.setOp (h : StC B W0 w g V S lg du op L vi vb si sb wv) (op' : Bool) : StC B W0 (w.setCell ⟨g, 6, none⟩ (.bool op')) g V S lg du op' L vi vb si sb wv :=
  ⟨h.ge, ty_set h.ty, fz_set h.fz, cell_old (by decide) h.c0, cell_old (by decide) h.c1, cell_old (by decide) h.c2, cell_old (by decide) h.c3, cell_old (by decide) h.c4, cell_old (by decide) h.c5, cell_new h.c6, cell_old (by decide) h.c7, h.vol.soft (h.soft _ _), h.saved.soft (h.soft _ _), own_set h.writes h.ge h.off⟩
theorem StC.setWr (h : StC B W0 w g V S lg du op L vi vb si sb wv) {wv' : Value} {L' : List Wr} (ho : OwnW B 61 wv' L' W0 w) (hne : wv'.ownBlock ≠ some g) : StC B W0 (w.setCell ⟨g, 7, none⟩ wv') g V S lg du op L' vi vb si sb wv' :=
  ⟨h.ge, ty_set h.ty, fz_set h.fz, cell_old (by decide) h.c0, cell_old (by decide) h.c1, cell_old (by decide) h.c2, cell_old (by decide) h.c3, cell_old (by decide) h.c4, cell_old (by decide) h.c5, cell_old (by decide) h.c6, cell_new h.c7, h.vol.soft (h.soft _ _), h.saved.soft (h.soft _ _), own_set ho h.ge hne⟩
theorem StC.noWr (h : StC B W0 w g V S lg du op L vi vb si sb wv) : StC B W0 (w.setCell ⟨g, 7, none⟩ (.slice none 0 0)) g V S lg du op [] vi vb si sb (.slice none 0 0) :=
  h.setWr (OwnW.nil h.below h.writes.2.2) (by simp [Value.ownBlock])
theorem StC.setVol (h : StC B W0 w g V S lg du op L vi vb si sb wv) {vi' vb' : Value} {V' : Vol} (hv : VolTy w vi' vb' V') : StC B W0 ((w.setCell ⟨g, 0, none⟩ vi').setCell ⟨g, 1, none⟩ vb') g V' S lg du op L vi' vb' si sb wv := by
  have hs : Soft w ((w.setCell ⟨g, 0, none⟩ vi').setCell ⟨g, 1, none⟩ vb') := by
    obtain ⟨cur, fr, hk⟩ := ty_set (j := 0) (x := vi') h.ty
    exact (h.soft 0 vi').trans (Soft.setCell hk (.inl rfl))
  exact ⟨h.ge, ty_set (ty_set h.ty), fz_set (fz_set h.fz), cell_old (by decide) (cell_new h.c0), cell_new (cell_old (by decide) h.c1), cell_old (by decide) (cell_old (by decide) h.c2), cell_old (by decide) (cell_old (by decide) h.c3), cell_old (by decide) (cell_old (by decide) h.c4), cell_old (by decide) (cell_old (by decide) h.c5), cell_old (by decide) (cell_old (by decide) h.c6), cell_old (by decide) (cell_old (by decide) h.c7), hv.soft hs, h.saved.soft hs, own_set (own_set h.writes h.ge h.off) h.ge h.off⟩
theorem StC.setSaved (h : StC B W0 w g V S lg du op L vi vb si sb wv) {vi' vb' : Value} {V' : Vol} (hv : VolTy w vi' vb' V') : StC B W0 ((w.setCell ⟨g, 2, none⟩ vi').setCell ⟨g, 3, none⟩ vb') g V V' lg du op L vi vb vi' vb' wv := by
  have hs : Soft w ((w.setCell ⟨g, 2, none⟩ vi').setCell ⟨g, 3, none⟩ vb') := by
    obtain ⟨cur, fr, hk⟩ := ty_set (j := 2) (x := vi') h.ty
    exact (h.soft 2 vi').trans (Soft.setCell hk (.inl rfl))
  exact ⟨h.ge, ty_set (ty_set h.ty), fz_set (fz_set h.fz), cell_old (by decide) (cell_old (by decide) h.c0), cell_old (by decide) (cell_old (by decide) h.c1), cell_old (by decide) (cell_new h.c2), cell_new (cell_old (by decide) h.c3), cell_old (by decide) (cell_old (by decide) h.c4), cell_old (by decide) (cell_old (by decide) h.c5), cell_old (by decide) (cell_old (by decide) h.c6), cell_old (by decide) (cell_old (by decide) h.c7), h.vol.soft hs, hv.soft hs, own_set (own_set h.writes h.ge h.off) h.ge h.off⟩
theorem StC.soft2 (h : StC B W0 w g V S lg du op L vi vb si sb wv) (i j : Nat) (x y : Value) : Soft w ((w.setCell ⟨g, i, none⟩ x).setCell ⟨g, j, none⟩ y) := by
  obtain ⟨cur, fr, hk⟩ := ty_set (j := i) (x := x) h.ty
  exact (h.soft i x).trans (Soft.setCell hk (.inl rfl))
end

/-- the log's bytes, the durable part's length -/
def logB (s : EM.St) : ByteArray := ⟨(bytesOf s.deals).toArray⟩
def durN (s : EM.St) : Nat := (bytesOf (s.deals.take s.last)).length
/-- block g holds the state s of the plain machine -/
def St (B : Nat) (W0 w : World) (g n : Nat) (s : EM.St) : Prop := EM.Inv n s ∧ ∃ vi vb si sb wv, StC B W0 w g s.now s.base (logB s) (durN s) s.op s.l vi vb si sb wv
theorem St.keep {B : Nat} {W0 w w' : World} {g n : Nat} {s : EM.St} (h : St B W0 w g n s) (hb : Below w.heap.size w w') : St B W0 w' g n s := by
  obtain ⟨hi, vi, vb, si, sb, wv, hc⟩ := h
  exact ⟨hi, vi, vb, si, sb, wv, hc.keep hb⟩
theorem log_size (s : EM.St) : (logB s).size = (bytesOf s.deals).length := by simp [logB, ByteArray.size]
theorem dur_le (s : EM.St) : durN s ≤ (bytesOf s.deals).length := bytes_take _ _
end Go.Proofs.Ythjaanhkmfiajac
