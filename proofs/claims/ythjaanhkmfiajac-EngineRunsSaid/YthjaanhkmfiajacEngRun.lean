/- Package engine: Run: the answers to a script, and the volume in the end. Conditions: the actions' numbers are ints. -/
import Derived.Test.YthjaanhkmfiajacEngPerform
import Derived.Test.YthjaanhkmfiajacPure
import Derived.Test.YthjaanhkmfiajacVolNew
namespace Go.Proofs.Ythjaanhkmfiajac
open Go.RowKit LM

def actC (a : EM.Act) : List Value := [.int .i64 a.kind, .int .i64 a.block, .string a.data, .int .i64 a.keep]
def ansC (x : EM.Ans) : List Value := [.int .i64 x.code, .string x.data, .int .i64 x.items, .int .i64 x.log, .int .i64 x.count]
theorem actE : Enc actC 4 := ⟨fun _ => rfl, fun x u h => by simp [actC] at h; rcases h with rfl | rfl | rfl | rfl <;> rfl, by decide⟩
theorem ansE : Enc ansC 5 := ⟨fun _ => rfl, fun x u h => by simp [ansC] at h; rcases h with rfl | rfl | rfl | rfl | rfl <;> rfl, by decide⟩
theorem infoAns : (Try.prog.info? 43).map (fun i => (i.zero, i.size, i.bytes)) = some (some (.agg #[.int .i64 0, .string ⟨#[]⟩, .int .i64 0, .int .i64 0, .int .i64 0]), 5, 48) := by kernel_rfl
abbrev ActsAt (w : World) (v : Value) (L : List EM.Act) : Prop := RowsAt actC 4 w v L
abbrev OwnA (B : Nat) (v : Value) (L : List EM.Ans) (W0 w : World) : Prop := OwnR ansC 5 B 43 v L W0 w

theorem alloc_far {w : World} {G j : Nat} {r : Option Value} (hG : G < w.heap.size) (h : w.cell? ⟨G, j, none⟩ = r) (o : Obj) : (w.alloc o).cell? ⟨G, j, none⟩ = r := (World.cell?_alloc_lt _ _ _ hG).trans h
abbrev set8 (w : World) (N : Nat) (a b c d e f g h : Value) : World := (((((((w.setCell ⟨N, 0, none⟩ a).setCell ⟨N, 1, none⟩ b).setCell ⟨N, 2, none⟩ c).setCell ⟨N, 3, none⟩ d).setCell ⟨N, 4, none⟩ e).setCell ⟨N, 5, none⟩ f).setCell ⟨N, 6, none⟩ g).setCell ⟨N, 7, none⟩ h
theorem set8_far {w : World} {N G j : Nat} {r : Option Value} (hne : N ≠ G) (h : w.cell? ⟨G, j, none⟩ = r) (a b c d e f g i : Value) : (set8 w N a b c d e f g i).cell? ⟨G, j, none⟩ = r := by
  unfold set8
  rw [World.cell?_setCell_far _ _ _ _ hne, World.cell?_setCell_far _ _ _ _ hne, World.cell?_setCell_far _ _ _ _ hne, World.cell?_setCell_far _ _ _ _ hne, World.cell?_setCell_far _ _ _ _ hne, World.cell?_setCell_far _ _ _ _ hne, World.cell?_setCell_far _ _ _ _ hne, World.cell?_setCell_far _ _ _ _ hne]
  exact h
/-- a zero state made before a call stands there behind it -/
theorem st0_of {w w2 : World} (hb : Below (w.alloc (.cells #[.slice none 0 0, .slice none 0 0, .slice none 0 0, .slice none 0 0, .string ⟨#[]⟩, .int .i64 0, .bool false, .slice none 0 0] 39)).drew.heap.size (w.alloc (.cells #[.slice none 0 0, .slice none 0 0, .slice none 0 0, .slice none 0 0, .string ⟨#[]⟩, .int .i64 0, .bool false, .slice none 0 0] 39)).drew w2) :
    (w2.cell? ⟨w.heap.size, 0, none⟩ = some (.slice none 0 0) ∧ w2.cell? ⟨w.heap.size, 1, none⟩ = some (.slice none 0 0) ∧ w2.cell? ⟨w.heap.size, 2, none⟩ = some (.slice none 0 0) ∧ w2.cell? ⟨w.heap.size, 3, none⟩ = some (.slice none 0 0) ∧ w2.cell? ⟨w.heap.size, 4, none⟩ = some (.string ⟨#[]⟩) ∧ w2.cell? ⟨w.heap.size, 5, none⟩ = some (.int .i64 0) ∧ w2.cell? ⟨w.heap.size, 6, none⟩ = some (.bool false) ∧ w2.cell? ⟨w.heap.size, 7, none⟩ = some (.slice none 0 0)) ∧ (w2.frozen? ⟨w.heap.size, 0, none⟩ = false ∧ w2.frozen? ⟨w.heap.size, 1, none⟩ = false ∧ w2.frozen? ⟨w.heap.size, 2, none⟩ = false ∧ w2.frozen? ⟨w.heap.size, 3, none⟩ = false ∧ w2.frozen? ⟨w.heap.size, 4, none⟩ = false ∧ w2.frozen? ⟨w.heap.size, 5, none⟩ = false ∧ w2.frozen? ⟨w.heap.size, 6, none⟩ = false ∧ w2.frozen? ⟨w.heap.size, 7, none⟩ = false) ∧ w2.heap[w.heap.size]? = some (.cells #[.slice none 0 0, .slice none 0 0, .slice none 0 0, .slice none 0 0, .string ⟨#[]⟩, .int .i64 0, .bool false, .slice none 0 0] 39 (0, 0)) := by
  have hlt : w.heap.size < (w.alloc (.cells #[.slice none 0 0, .slice none 0 0, .slice none 0 0, .slice none 0 0, .string ⟨#[]⟩, .int .i64 0, .bool false, .slice none 0 0] 39)).drew.heap.size := by show w.heap.size < (w.heap.push _).size; simp
  have hg : w2.heap[w.heap.size]? = some (.cells #[.slice none 0 0, .slice none 0 0, .slice none 0 0, .slice none 0 0, .string ⟨#[]⟩, .int .i64 0, .bool false, .slice none 0 0] 39 (0, 0)) := by
    rw [hb.block _ hlt]
    show (w.heap.push _)[w.heap.size]? = _
    simp
  refine ⟨⟨?_, ?_, ?_, ?_, ?_, ?_, ?_, ?_⟩, ⟨?_, ?_, ?_, ?_, ?_, ?_, ?_, ?_⟩, hg⟩ <;> simp [World.cell?, World.frozen?, hg]

theorem VolTy.nil (w : World) : VolTy w (.slice none 0 0) (.slice none 0 0) ⟨[], []⟩ :=
  ⟨⟨none, 0, rfl, by simp, fun _ => rfl, fun i x h => by simp at h⟩, ⟨none, 0, rfl, by simp, fun _ => rfl, fun i x h => by simp at h⟩, (fun p n c h => by cases h), (fun p n c h => by cases h)⟩
/-- the state in which a run begins, in a block made before -/
theorem StC.first {B N : Nat} {W0 w2 : World} (hB : B ≤ N) (hb : Below B W0 w2) (hz : w2.heap[N]? = some (.cells #[.slice none 0 0, .slice none 0 0, .slice none 0 0, .slice none 0 0, .string ⟨#[]⟩, .int .i64 0, .bool false, .slice none 0 0] 39 (0, 0))) {V : Vol} {a b c d : Value} (h1 : VolTy w2 a b V) (h2 : VolTy w2 c d V) :
    StC B W0 (set8 w2 N a b c d (.string ⟨#[]⟩) (.int .i64 0) (.bool false) (.slice none 0 0)) N V V ⟨#[]⟩ 0 false [] a b c d (.slice none 0 0) := by
  have hlt : N < w2.heap.size := (Array.getElem?_eq_some_iff.1 hz).1
  have h0 : StC B W0 w2 N ⟨[], []⟩ ⟨[], []⟩ ⟨#[]⟩ 0 false [] (.slice none 0 0) (.slice none 0 0) (.slice none 0 0) (.slice none 0 0) (.slice none 0 0) := by
    refine ⟨hB, ⟨_, _, hz⟩, fun j => ?_, ?_, ?_, ?_, ?_, ?_, ?_, ?_, ?_, VolTy.nil _, VolTy.nil _, OwnW.nil hb (by omega)⟩
    · simp [World.frozen?, hz]
    all_goals simp [World.cell?, hz]
  have k1 := h0.setVol h1
  have s1 := h0.soft2 0 1 a b
  have k2 := k1.setSaved (h2.soft s1)
  exact (((k2.setLog ⟨#[]⟩).setDur 0).setOp false).noWr
/-- the same in a new block -/
theorem StC.fresh {B : Nat} {W0 w2 : World} (hB : B ≤ w2.heap.size) (hb : Below B W0 w2) {V : Vol} {a b c d : Value} (h1 : VolTy w2 a b V) (h2 : VolTy w2 c d V) :
    StC B W0 (w2.alloc (.cells #[a, b, c, d, .string ⟨#[]⟩, .int .i64 0, .bool false, .slice none 0 0] 39)) w2.heap.size V V ⟨#[]⟩ 0 false [] a b c d (.slice none 0 0) := by
  have hg : (w2.alloc (.cells #[a, b, c, d, .string ⟨#[]⟩, .int .i64 0, .bool false, .slice none 0 0] 39)).heap[w2.heap.size]? = some (.cells #[a, b, c, d, .string ⟨#[]⟩, .int .i64 0, .bool false, .slice none 0 0] 39 (0, 0)) := by
    show (w2.heap.push _)[w2.heap.size]? = _
    simp
  have hal := below_alloc (Below.refl w2.heap.size w2) (.cells #[a, b, c, d, .string ⟨#[]⟩, .int .i64 0, .bool false, .slice none 0 0] 39)
  have hbW := hb.alloc hB (.cells #[a, b, c, d, .string ⟨#[]⟩, .int .i64 0, .bool false, .slice none 0 0] 39)
  generalize w2.alloc (.cells #[a, b, c, d, .string ⟨#[]⟩, .int .i64 0, .bool false, .slice none 0 0] 39) = W at hg hal hbW ⊢
  have hlt := (Array.getElem?_eq_some_iff.1 hg).1
  refine ⟨hB, ⟨_, _, hg⟩, fun j => ?_, ?_, ?_, ?_, ?_, ?_, ?_, ?_, ?_, h1.keep hal, h2.keep hal, OwnW.nil hbW (by omega)⟩
  · simp [World.frozen?, hg]
  all_goals simp [World.cell?, hg]
theorem St.start {B g n : Nat} {W0 w : World} (hn : 1 ≤ n ∧ n ≤ 32) {a b c d : Value} (h : StC B W0 w g (newV n) (newV n) ⟨#[]⟩ 0 false [] a b c d (.slice none 0 0)) : St B W0 w g n (EM.start n) :=
  ⟨EM.Inv.start hn, a, b, c, d, _, h⟩
theorem OwnA.soft {B : Nat} {v : Value} {L : List EM.Ans} {W0 w w' : World} (h : OwnR ansC 5 B 43 v L W0 w) (hs : Soft w w') (hb : Below B W0 w') : OwnR ansC 5 B 43 v L W0 w' :=
  ⟨hs.row h.1 (by decide) (by decide), hb, Nat.le_trans h.2.2 hs.size⟩
theorem run_step {s : EM.St} {l : List EM.Act} {k : Nat} {x : EM.Act} (hx : l[k]? = some x) : EM.runL s (l.take (k + 1)) = ((EM.step (EM.runL s (l.take k)).1 x).1, (EM.runL s (l.take k)).2 ++ [(EM.step (EM.runL s (l.take k)).1 x).2]) := by
  rw [take_snoc hx, EM.runL_append]
  rfl

/-- the state of Run's loop -/
def RunSt (w : World) (G n : Nat) (l : List EM.Act) (k : Nat) (a : Value) (wr : World) : Prop :=
  OwnR ansC 5 w.heap.size 43 a (EM.runL (EM.start n) (l.take k)).2 w wr ∧ St w.heap.size w wr G n (EM.runL (EM.start n) (l.take k)).1 ∧ VBox wr w.heap.size (.slice none 0 0) (.slice none 0 0)
theorem RunSt.next {w wr w3 w5 : World} {G n : Nat} {l : List EM.Act} {k : Nat} {a v5 : Value} {x : EM.Act} (h : RunSt w G n l k a wr) (hx : l[k]? = some x) (hs : Soft wr w3) (h3 : St w.heap.size w w3 G n (EM.step (EM.runL (EM.start n) (l.take k)).1 x).1)
    (ho : OwnR ansC 5 w.heap.size 43 v5 ((EM.runL (EM.start n) (l.take k)).2 ++ [(EM.step (EM.runL (EM.start n) (l.take k)).1 x).2]) w w5) (hg : w3.grownBy w5 a.ownBlock) : RunSt w G n l (k + 1) v5 w5 := by
  unfold RunSt
  rw [run_step hx]
  obtain ⟨h1, h2, h5⟩ := h
  obtain ⟨hi, vi, vb, si, sb, wv, hc⟩ := h3
  have hrow := hs.row h1.1 (by decide) (by decide)
  refine ⟨ho, ⟨hi, vi, vb, si, sb, wv, hc.apart (by decide) (by decide) (by decide) (by decide) hrow (Nat.le_refl _) hg⟩, ?_⟩
  have h5' : VBox w3 w.heap.size (.slice none 0 0) (.slice none 0 0) := hs.cells h5 (by decide) (by decide)
  exact (hg.block _ h5'.lt (type_apart (by decide) hrow h5')).trans h5'
theorem RunSt.answers {w wr w3 : World} {G n : Nat} {l : List EM.Act} {k : Nat} {a : Value} (h : RunSt w G n l k a wr) (hs : Soft wr w3) (hb : Below w.heap.size w w3) : OwnR ansC 5 w.heap.size 43 a (EM.runL (EM.start n) (l.take k)).2 w w3 := OwnA.soft h.1 hs hb
/-- what Run returns where it runs -/
def RunRet (n : Nat) (l : List EM.Act) (w : World) (e : Ending) (w' : World) : Prop :=
  ∃ v x y, e = .returned (.tuple #[v, .agg #[x, y], .int .i64 0]) ∧ OwnA w.heap.size v (EM.runL (EM.start n) l).2 w w' ∧ VolTy w' x y (EM.runL (EM.start n) l).1.now

set_option maxRecDepth 100000 in
set_option maxHeartbeats 4000000 in
theorem Run_ok (n : Nat) (hn : 1 ≤ n ∧ n ≤ 32) (u : Value) (l : List EM.Act) (hl : l.length ≤ 300) (hok : ∀ a ∈ l, ActOk a) (w : World) (hu : ActsAt w u l) :
    Calls Try.prog 4 #[.int .i64 (n : Int), u] w (RunRet n l w) := by
  obtain ⟨i0, hi, hz0, hz1, hz2⟩ := info_parts infoAns
  obtain ⟨pu, cu, rfl, _, _, hcell⟩ := hu
  have hnew : newOf (n : Int) = (newV n, 0) := by
    unfold newOf
    rw [if_pos (by omega), Int.toNat_natCast]
  have hN := VNew_any (n : Int) (w.alloc (.cells #[.slice none 0 0, .slice none 0 0] 27))
  rw [hnew] at hN
  have HN := Lib.hid hN
  have HCELL := Lib.hid hcell
  have HOK := Lib.hid hok
  clear hN hnew hcell hok
  go_enter Try.func4, Try.ntmps4
  go_upto_region 6 with (go_at_call 8; refine HN.out.mono ?_; rintro e w1 ⟨vi, vz, rfl, ho⟩; obtain ⟨pi, ki, rfl⟩ := ho.1.isSlice; obtain ⟨pz, kz, rfl⟩ := ho.2.1.isSlice; have HO := Lib.hid ho; clear ho)
  have hnv := (new_ok hn).small
  obtain ⟨V0, hV0⟩ : ∃ V, V = newV n := ⟨_, rfl⟩
  rw [← hV0] at hnv
  have ho := HO.out
  rw [← hV0] at ho ⊢
  have hbw : Below w.heap.size w w1 := below_then (below_alloc (Below.refl _ _) _) ho.below
  have hv0 := (ho.ty (by omega) (by omega)).keep (below_alloc (Below.refl _ _) (.cells #[.slice pi V0.items.length ki, .slice pz V0.blocks.length kz] 27))
  obtain ⟨G7, hG7⟩ : ∃ G, G = w1.heap.size := ⟨_, rfl⟩
  obtain ⟨W1, hW1⟩ : ∃ W, W = w1.alloc (.cells #[.slice pi V0.items.length ki, .slice pz V0.blocks.length kz] 27) := ⟨_, rfl⟩
  have hbox : VBox W1 G7 (.slice pi V0.items.length ki) (.slice pz V0.blocks.length kz) := by rw [hW1, hG7]; exact VBox.new _ _ _
  have hbW : Below w.heap.size w W1 := by rw [hW1]; exact below_alloc hbw _
  rw [← hW1] at hv0
  have h5 : VBox W1 w.heap.size (.slice none 0 0) (.slice none 0 0) := by
    rw [hW1]
    exact ((VBox.new w _ _).keep (by have := ho.below; exact this)).keep (below_alloc (Below.refl _ _) _)
  rw [← hG7, ← hW1]
  obtain ⟨k0, k1, _, _⟩ := hbox.at
  have hGW := hbox.lt
  have m1 : ¬ W1.heap.size = G7 := by omega
  have m2 : ¬ G7 = W1.heap.size := by omega
  have HB := Lib.hid hbox
  have HV := Lib.hid hv0
  have H5 := Lib.hid h5
  have HV0 := Lib.hid hV0
  have HBW := Lib.hid hbW
  clear hbox hv0 h5 hV0 hbW hW1 hG7 ho HO hbw HN
  have t300 : decide ((300 : Int) < (l.length : Int)) = false := by simp; omega
  go_wp2
  go_region_held3 (fun w' => w'.cell? ⟨G7, 0, none⟩ = some (.slice pi V0.items.length ki) ∧ w'.cell? ⟨G7, 1, none⟩ = some (.slice pz V0.blocks.length kz)) (first | with_reducible exact ⟨q0, q1⟩ | with_reducible exact ⟨t0 _, t1 _⟩ | with_reducible exact ⟨s0 _ _ _ _ _ _ _ _, s1 _ _ _ _ _ _ _ _⟩ | go_keep)
    ((go_at_call 9; refine (VCopy_any _ V0 _ (HV.out.keep (by first | exact (Below.refl _ _).drew | exact (below_alloc (Below.refl _ _) _).drew)).at (by omega) (by omega)).mono ?_; rintro e w2 ⟨ci, cz, rfl, ho2⟩; have hb2 : Below W1.heap.size W1 w2 := (by first | exact below_then (Below.refl _ _).drew ho2.below | exact below_then (below_alloc (Below.refl _ _) _).drew ho2.below); obtain ⟨pi2, ki2, rfl⟩ := ho2.1.isSlice; obtain ⟨pz2, kz2, rfl⟩ := ho2.2.1.isSlice; have q0 := (hb2.cell (p := ⟨G7, 0, none⟩) hGW).trans k0; have q1 := (hb2.cell (p := ⟨G7, 1, none⟩) hGW).trans k1; have hG2 := Nat.lt_of_lt_of_le hGW hb2.size; have t0 := alloc_far hG2 q0; have t1 := alloc_far hG2 q1; have s0 := set8_far (N := W1.heap.size) m1 q0; have s1 := set8_far (N := W1.heap.size) m1 q1; have HO2 := Lib.hid ho2; have HB2 := Lib.hid hb2; (try ((with_reducible have hz := st0_of (w := W1) ho2.below); (obtain ⟨⟨z0, z1, z2, z3, z4, z5, z6, z7⟩, ⟨y0, y1, y2, y3, y4, y5, y6, y7⟩, hz8⟩ := hz))); clear ho2 hb2))
  all_goals
    have hb2 := HB2.out
    have hbw2 := below_then HBW.out hb2
    have h1 := HV.out.keep hb2
    have h2 := HO2.out.ty (by omega) (by omega)
    have h5' := H5.out.keep hb2
  all_goals (first
  | (
    have hne : w.heap.size ≠ W1.heap.size := by have := H5.out.lt; omega
    have hst : St w.heap.size w (set8 w2 W1.heap.size (.slice pi V0.items.length ki) (.slice pz V0.blocks.length kz) (.slice pi2 V0.items.length ki2) (.slice pz2 V0.blocks.length kz2) (.string ⟨#[]⟩) (.int .i64 0) (.bool false) (.slice none 0 0)) W1.heap.size n (EM.start n) := by
      have h0 := StC.first HBW.out.size hbw2 hz8 h1 h2
      rw [HV0.out] at h0 ⊢
      exact St.start hn h0
    have h5 : VBox (set8 w2 W1.heap.size (.slice pi V0.items.length ki) (.slice pz V0.blocks.length kz) (.slice pi2 V0.items.length ki2) (.slice pz2 V0.blocks.length kz2) (.string ⟨#[]⟩) (.int .i64 0) (.bool false) (.slice none 0 0)) w.heap.size (.slice none 0 0) (.slice none 0 0) := by
      unfold VBox set8
      rw [Below.heap_setCell _ _ _ _ hne, Below.heap_setCell _ _ _ _ hne, Below.heap_setCell _ _ _ _ hne, Below.heap_setCell _ _ _ _ hne, Below.heap_setCell _ _ _ _ hne, Below.heap_setCell _ _ _ _ hne, Below.heap_setCell _ _ _ _ hne, Below.heap_setCell _ _ _ _ hne]
      exact h5'
    change Exit.then _ _ _ _ (set8 w2 W1.heap.size (.slice pi V0.items.length ki) (.slice pz V0.blocks.length kz) (.slice pi2 V0.items.length ki2) (.slice pz2 V0.blocks.length kz2) (.string ⟨#[]⟩) (.int .i64 0) (.bool false) (.slice none 0 0))
    generalize (set8 w2 W1.heap.size (.slice pi V0.items.length ki) (.slice pz V0.blocks.length kz) (.slice pi2 V0.items.length ki2) (.slice pz2 V0.blocks.length kz2) (.string ⟨#[]⟩) (.int .i64 0) (.bool false) (.slice none 0 0)) = W9 at hst h5 ⊢
    generalize W1.heap.size = G9 at *)
  | (
    have hst : St w.heap.size w (w2.alloc (.cells #[.slice pi V0.items.length ki, .slice pz V0.blocks.length kz, .slice pi2 V0.items.length ki2, .slice pz2 V0.blocks.length kz2, .string ⟨#[]⟩, .int .i64 0, .bool false, .slice none 0 0] 39)) w2.heap.size n (EM.start n) := by
      have h0 := StC.fresh hbw2.size hbw2 h1 h2
      rw [HV0.out] at h0 ⊢
      exact St.start hn h0
    have h5 := h5'.keep (below_alloc (Below.refl _ _) (.cells #[.slice pi V0.items.length ki, .slice pz V0.blocks.length kz, .slice pi2 V0.items.length ki2, .slice pz2 V0.blocks.length kz2, .string ⟨#[]⟩, .int .i64 0, .bool false, .slice none 0 0] 39))
    generalize (w2.alloc (.cells #[.slice pi V0.items.length ki, .slice pz V0.blocks.length kz, .slice pi2 V0.items.length ki2, .slice pz2 V0.blocks.length kz2, .string ⟨#[]⟩, .int .i64 0, .bool false, .slice none 0 0] 39)) = W9 at hst h5 ⊢
    generalize w2.heap.size = G9 at *))
  all_goals
    have HST := Lib.hid hst
    have H59 := Lib.hid h5
    clear hst h5 h5' h1 h2 hb2 hbw2 q0 q1 t0 t1 s0 s1 hG2 HO2 HB2 HB HV HV0 HBW H5 m1 m2 k0 k1 hGW
    go_wp2
    have h0 : RunSt w G9 n l 0 (.slice none 0 0) W9 := by
      obtain ⟨_, _, _, _, _, _, hc⟩ := HST.out
      exact ⟨OwnR.nil hc.below hc.writes.2.2, HST.out, H59.out⟩
    have HR0 := Lib.hid h0
    clear h0 HST H59
    go_loopw [10, 32] (fun a i wr => ∃ k : Nat, k ≤ l.length ∧ i = .int .i64 (k : Int) ∧ Hid (RunSt w G9 n l k a wr)) (fun _ i _ => l.length - (intOf i).toNat)
    case atStart => exact ⟨0, Nat.zero_le _, rfl, HR0⟩
    case round =>
      clear HR0
      obtain ⟨k, hk, rfl, HR⟩ := hrel
      have hbr : Below w.heap.size w wr := HR.out.1.below
      have hbs : w.heap.size ≤ wr.heap.size := hbr.size
      obtain ⟨pa, ca, rfl⟩ := HR.out.1.isSlice
      obtain ⟨AL, hAL⟩ : ∃ AL, AL = (EM.runL (EM.start n) (l.take k)).2 := ⟨_, rfl⟩
      have hALk : AL.length = k := by rw [hAL, EM.runL_len, List.length_take]; omega
      have hr := HR.out
      rw [← hAL] at hr ⊢
      have HAL := Lib.hid hAL
      have HALK := Lib.hid hALk
      clear HR hAL hALk
      by_cases hlt : k < l.length
      · obtain ⟨x, hx⟩ : ∃ x, l[k]? = some x := ⟨_, List.getElem?_eq_getElem hlt⟩
        obtain ⟨b, off, rfl, hbl, hcx⟩ := HCELL.out k x hx
        have c0 := (hbr.cell (p := ⟨b, off + k * 4 + 0, none⟩) hbl).trans (hcx 0 (by decide))
        have c1 := (hbr.cell (p := ⟨b, off + k * 4 + 1, none⟩) hbl).trans (hcx 1 (by decide))
        have c2 := (hbr.cell (p := ⟨b, off + k * 4 + 2, none⟩) hbl).trans (hcx 2 (by decide))
        have c3 := (hbr.cell (p := ⟨b, off + k * 4 + 3, none⟩) hbl).trans (hcx 3 (by decide))
        simp only [actC, List.getElem?_cons_zero, List.getElem?_cons_succ, Nat.add_zero] at c0 c1 c2 c3
        have hok := HOK.out x (List.mem_of_getElem? hx)
        have hbx := below_alloc (Below.refl wr.heap.size wr) (.cells #[.int .i64 x.kind, .int .i64 x.block, .string x.data, .int .i64 x.keep] 41)
        have hp := perform_any x hok _ (hr.2.1.keep hbx) (Nat.le_trans hbs (by simp))
        unfold actV at hp
        have hi0 : (0 : Int) ≤ (k : Int) := by omega
        have hi1 : (k : Int) < (l.length : Int) := by omega
        have HX := Lib.hid hx
        have HRR := Lib.hid hr
        have HP := Lib.hid hp
        have HBX := Lib.hid hbx
        clear hx hcx hok hr hp hbx
        obtain ⟨T, hT⟩ : ∃ T, T = EM.step (EM.runL (EM.start n) (l.take k)).1 x := ⟨_, rfl⟩
        have hp := HP.out
        rw [← hT] at hp
        have HP2 := Lib.hid hp
        have HTT := Lib.hid hT
        clear hp hT HP
        go_wp2_with (first
          | (go_at_call 10; refine HP2.out.mono ?_; rintro e w3 ⟨rfl, hs3, ho3⟩; unfold ansV; have hsoft := (Soft.of_below HBX.out).trans ho3; have hans : OwnR ansC 5 w.heap.size 43 (.slice pa AL.length ca) AL w w3 := (by have := HRR.out.answers hsoft (by obtain ⟨_, _, _, _, _, _, hc⟩ := hs3; exact hc.below); rw [← HAL.out] at this; exact this); have HS3 := Lib.hid hs3; have HSF := Lib.hid hsoft; have HANS := Lib.hid hans; clear hs3 ho3 hsoft hans)
          | (at_builtin; refine wpList_own_r ansE rfl (.tmp 36) (.tmp 39) 23 rfl w.heap.size 43 i0 _ 48 Try.underlying23 hi hz0 rfl hz1 hz2 _ AL rfl w w3 T.2 _ rfl HANS.out _ rfl (by simp) (by have := HALK.out; omega) (by have := HALK.out; omega) ?_; intro v5 w5 ho5 hg5))
        go_roundw
        case rel =>
          refine ⟨k + 1, by omega, by go_num, Lib.hid (HRR.out.next HX.out HSF.out ?_ ?_ hg5)⟩
          · rw [← HTT.out]; exact HS3.out
          · rw [← HTT.out, ← HAL.out]; exact ho5
        case measure => simp [intOf]; omega
      · have hkl : k = l.length := by omega
        rw [hkl, List.take_length] at HAL
        have hr2 := hr.2.1
        have h5r := hr.2.2
        have hr1 := hr.1
        rw [hkl, List.take_length] at hr1 hr2
        obtain ⟨hi', vi, vb, si, sb, wv, hc⟩ := hr2
        obtain ⟨pv, cv, qv, dv, rfl, rfl⟩ := hc.vol.slices
        have c0 := hc.c0
        have c1 := hc.c1
        obtain ⟨e50, e51, f50, f51⟩ := h5r.at
        have hgl := hc.ge
        have hne1 : ¬ G9 = w.heap.size := by
          intro e
          obtain ⟨cur, fr, hk⟩ := hc.ty
          unfold VBox at h5r
          rw [e, h5r] at hk
          simp only [Option.some.injEq, Obj.cells.injEq] at hk
          exact absurd hk.2.1 (by decide)
        have hne2 : ¬ w.heap.size = G9 := fun e => hne1 e.symm
        obtain ⟨VF, hVF⟩ : ∃ V, V = (EM.runL (EM.start n) l).1.now := ⟨_, rfl⟩
        have hvt := hc.vol
        rw [← hVF] at c0 c1 hvt
        have HVF := Lib.hid hVF
        have HVT := Lib.hid hvt
        have H5R := Lib.hid h5r
        have HR1 := Lib.hid hr1
        clear hi' hc hr hr1 h5r hvt hVF hkl HCELL HOK
        go_wp2
        go_region_held3 (fun w' => w'.cell? ⟨G9, 0, none⟩ = some (.slice pv VF.items.length cv) ∧ w'.cell? ⟨G9, 1, none⟩ = some (.slice qv VF.blocks.length dv)) (go_keep) (fail)
        go_wp2
        have hrow := HR1.out
        have hgr : wr.grownBy ((wr.setCell ⟨w.heap.size, 0, none⟩ (.slice pv VF.items.length cv)).setCell ⟨w.heap.size, 1, none⟩ (.slice qv VF.blocks.length dv)) (some w.heap.size) :=
          ⟨rfl, rfl, rfl, by simp [World.setCell], fun k hk hne => by
            rw [Below.heap_setCell _ _ _ _ (show k ≠ w.heap.size from fun e => hne (by rw [e])), Below.heap_setCell _ _ _ _ (show k ≠ w.heap.size from fun e => hne (by rw [e]))]⟩
        have hoff : (Value.slice pa AL.length ca).ownBlock ≠ some w.heap.size := fun e => type_apart (by decide) hrow.1 H5R.out e.symm
        have hfin : OwnR ansC 5 w.heap.size 43 (.slice pa AL.length ca) (EM.runL (EM.start n) l).2 w ((wr.setCell ⟨w.heap.size, 0, none⟩ (.slice pv VF.items.length cv)).setCell ⟨w.heap.size, 1, none⟩ (.slice qv VF.blocks.length dv)).drew :=
          OwnR.drew ⟨hrow.1.kept hgr (.inr hoff), (hrow.2.1.setCell (p := ⟨w.heap.size, 0, none⟩) (Nat.le_refl _) _).setCell (p := ⟨w.heap.size, 1, none⟩) (Nat.le_refl _) _, Nat.le_trans hrow.2.2 hgr.size⟩
        have hvf : VolTy ((wr.setCell ⟨w.heap.size, 0, none⟩ (.slice pv VF.items.length cv)).setCell ⟨w.heap.size, 1, none⟩ (.slice qv VF.blocks.length dv)).drew (.slice pv VF.items.length cv) (.slice qv VF.blocks.length dv) (EM.runL (EM.start n) l).1.now := by
          rw [← HVF.out]
          exact (HVT.out.box H5R.out _ _).keep (Below.refl _ _).drew
        exact bodyPost_ret (v := .tuple #[.slice pa AL.length ca, .agg #[.slice pv VF.items.length cv, .slice qv VF.blocks.length dv], .int .i64 0]) (by simp [results, Try.results4, go_sem, e50, e51]) rfl ⟨_, _, _, rfl, hfin, hvf⟩
end Go.Proofs.Ythjaanhkmfiajac
