/- The document's ScriptOf: what it returns, given what ActedOf does. Conditions: the actions' numbers are ints. -/
import Derived.Test.YthjaanhkmfiajacRefHouses
import Derived.Test.YthjaanhkmfiajacRefVols
import Derived.Deep.RegionWith
namespace Go.Proofs.Ythjaanhkmfiajac
open Go.RowKit LM EM

/-- a zero house, a zero answer laid before a call -/
def ZeroH (w8 : World) (G : Nat) : Prop := (w8.cell? ⟨G, 0, none⟩ = some (.slice none 0 0) ∧ w8.cell? ⟨G, 1, none⟩ = some (.slice none 0 0) ∧ w8.cell? ⟨G, 2, none⟩ = some (.slice none 0 0) ∧ w8.cell? ⟨G, 3, none⟩ = some (.int .i64 0) ∧ w8.cell? ⟨G, 4, none⟩ = some (.bool false) ∧ w8.cell? ⟨G, 5, none⟩ = some (.slice none 0 0)) ∧ (∀ j, w8.frozen? ⟨G, j, none⟩ = false) ∧ G < w8.heap.size ∧ ¬ G = w8.heap.size ∧ ¬ w8.heap.size = G
def ZeroA (w8 : World) (G : Nat) : Prop := (w8.cell? ⟨G, 0, none⟩ = some (.int .i64 0) ∧ w8.cell? ⟨G, 1, none⟩ = some (.string ⟨#[]⟩) ∧ w8.cell? ⟨G, 2, none⟩ = some (.int .i64 0) ∧ w8.cell? ⟨G, 3, none⟩ = some (.int .i64 0) ∧ w8.cell? ⟨G, 4, none⟩ = some (.int .i64 0)) ∧ (∀ j, w8.frozen? ⟨G, j, none⟩ = false) ∧ G < w8.heap.size ∧ ¬ G = w8.heap.size ∧ ¬ w8.heap.size = G
theorem zeroH {w8 : World} {G : Nat} (h : RowAt w8 G 47 #[.slice none 0 0, .slice none 0 0, .slice none 0 0, .int .i64 0, .bool false, .slice none 0 0]) : ZeroH w8 G := ⟨⟨h.cell 0, h.cell 1, h.cell 2, h.cell 3, h.cell 4, h.cell 5⟩, h.fz, h.lt, Nat.ne_of_lt h.lt, fun e => Nat.ne_of_lt h.lt e.symm⟩
theorem zeroA {w8 : World} {G : Nat} (h : RowAt w8 G 43 #[.int .i64 0, .string ⟨#[]⟩, .int .i64 0, .int .i64 0, .int .i64 0]) : ZeroA w8 G := ⟨⟨h.cell 0, h.cell 1, h.cell 2, h.cell 3, h.cell 4⟩, h.fz, h.lt, Nat.ne_of_lt h.lt, fun e => Nat.ne_of_lt h.lt e.symm⟩
theorem zH_of {w w8 : World} (hb : Below (w.alloc (.cells #[.slice none 0 0, .slice none 0 0, .slice none 0 0, .int .i64 0, .bool false, .slice none 0 0] 47)).drew.heap.size (w.alloc (.cells #[.slice none 0 0, .slice none 0 0, .slice none 0 0, .int .i64 0, .bool false, .slice none 0 0] 47)).drew w8) : RowAt w8 w.heap.size 47 #[.slice none 0 0, .slice none 0 0, .slice none 0 0, .int .i64 0, .bool false, .slice none 0 0] := RowAt.past (RowAt.drew (row_new_at w _ rfl _ _)) hb
theorem zA_of {w w8 : World} (hb : Below (w.alloc (.cells #[.int .i64 0, .string ⟨#[]⟩, .int .i64 0, .int .i64 0, .int .i64 0] 43)).drew.heap.size (w.alloc (.cells #[.int .i64 0, .string ⟨#[]⟩, .int .i64 0, .int .i64 0, .int .i64 0] 43)).drew w8) : RowAt w8 w.heap.size 43 #[.int .i64 0, .string ⟨#[]⟩, .int .i64 0, .int .i64 0, .int .i64 0] := RowAt.past (RowAt.drew (row_new_at w _ rfl _ _)) hb
theorem zHA_of {w w8 : World} (hb : Below ((w.alloc (.cells #[.slice none 0 0, .slice none 0 0, .slice none 0 0, .int .i64 0, .bool false, .slice none 0 0] 47)).alloc (.cells #[.int .i64 0, .string ⟨#[]⟩, .int .i64 0, .int .i64 0, .int .i64 0] 43)).drew.heap.size ((w.alloc (.cells #[.slice none 0 0, .slice none 0 0, .slice none 0 0, .int .i64 0, .bool false, .slice none 0 0] 47)).alloc (.cells #[.int .i64 0, .string ⟨#[]⟩, .int .i64 0, .int .i64 0, .int .i64 0] 43)).drew w8) : RowAt w8 w.heap.size 47 #[.slice none 0 0, .slice none 0 0, .slice none 0 0, .int .i64 0, .bool false, .slice none 0 0] ∧ RowAt w8 (w.heap.size + 1) 43 #[.int .i64 0, .string ⟨#[]⟩, .int .i64 0, .int .i64 0, .int .i64 0] :=
  ⟨RowAt.past (RowAt.drew (RowAt.alloc (row_new_at w _ rfl _ _) _)) hb, RowAt.past (RowAt.drew (row_new_at _ _ (by simp) _ _)) hb⟩
theorem zAH_of {w w8 : World} (hb : Below ((w.alloc (.cells #[.int .i64 0, .string ⟨#[]⟩, .int .i64 0, .int .i64 0, .int .i64 0] 43)).alloc (.cells #[.slice none 0 0, .slice none 0 0, .slice none 0 0, .int .i64 0, .bool false, .slice none 0 0] 47)).drew.heap.size ((w.alloc (.cells #[.int .i64 0, .string ⟨#[]⟩, .int .i64 0, .int .i64 0, .int .i64 0] 43)).alloc (.cells #[.slice none 0 0, .slice none 0 0, .slice none 0 0, .int .i64 0, .bool false, .slice none 0 0] 47)).drew w8) : RowAt w8 w.heap.size 43 #[.int .i64 0, .string ⟨#[]⟩, .int .i64 0, .int .i64 0, .int .i64 0] ∧ RowAt w8 (w.heap.size + 1) 47 #[.slice none 0 0, .slice none 0 0, .slice none 0 0, .int .i64 0, .bool false, .slice none 0 0] :=
  ⟨RowAt.past (RowAt.drew (RowAt.alloc (row_new_at w _ rfl _ _) _)) hb, RowAt.past (RowAt.drew (row_new_at _ _ (by simp) _ _)) hb⟩
/-- a new house and a new answer lie in memory, all else is as it was -/
def FinOk (wr w8 W : World) (G12 G13 : Nat) (h0 h1 h2 h3 h4 h5 a0 a1 a2 a3 a4 : Value) : Prop := RowAt W G12 47 #[h0, h1, h2, h3, h4, h5] ∧ RowAt W G13 43 #[a0, a1, a2, a3, a4] ∧ Below wr.heap.size wr W ∧ Bx w8 W
theorem fin0 {wr w8 : World} (hb : Below wr.heap.size wr w8) (h0 h1 h2 h3 h4 h5 a0 a1 a2 a3 a4 : Value) : FinOk wr w8 ((w8.alloc (.cells #[h0, h1, h2, h3, h4, h5] 47)).alloc (.cells #[a0, a1, a2, a3, a4] 43)) w8.heap.size (w8.heap.size + 1) h0 h1 h2 h3 h4 h5 a0 a1 a2 a3 a4 :=
  ⟨(row_new_at w8 _ rfl _ _).alloc _, row_new_at _ _ (by simp) _ _, below_alloc (below_alloc hb _) _, .of_below (below_alloc (below_alloc (Below.refl _ _) _) _)⟩
theorem fin1 {wr w8 : World} (hb : Below wr.heap.size wr w8) (h0 h1 h2 h3 h4 h5 a0 a1 a2 a3 a4 : Value) : FinOk wr w8 ((w8.alloc (.cells #[a0, a1, a2, a3, a4] 43)).alloc (.cells #[h0, h1, h2, h3, h4, h5] 47)) (w8.heap.size + 1) w8.heap.size h0 h1 h2 h3 h4 h5 a0 a1 a2 a3 a4 :=
  ⟨row_new_at _ _ (by simp) _ _, (row_new_at w8 _ rfl _ _).alloc _, below_alloc (below_alloc hb _) _, .of_below (below_alloc (below_alloc (Below.refl _ _) _) _)⟩
theorem trkH {wr w8 : World} {G : Nat} {c : Array Value} (hb : Below wr.heap.size wr w8) (hg : wr.heap.size ≤ G) (r : RowAt w8 G 47 c) : Trk wr.heap.size wr w8 [G] w8 :=
  ⟨Bx.refl _, hb, hb.size, fun g hg' => by rw [List.mem_singleton.1 hg']; exact ⟨hg, _, _, _, r, by unfold Hard; decide⟩⟩
theorem trkA {wr w8 : World} {G : Nat} {c : Array Value} (hb : Below wr.heap.size wr w8) (hg : wr.heap.size ≤ G) (r : RowAt w8 G 43 c) : Trk wr.heap.size wr w8 [G] w8 :=
  ⟨Bx.refl _, hb, hb.size, fun g hg' => by rw [List.mem_singleton.1 hg']; exact ⟨hg, _, _, _, r, by unfold Hard; decide⟩⟩
theorem Trk.set6 {N : Nat} {wa wb w : World} {bs : List Nat} {g : Nat} (h : Trk N wa wb bs w) (hg : g ∈ bs) (a b c d e f : Value) : Trk N wa wb bs (hset6 w g a b c d e f) := (((((h.set hg _ _).set hg _ _).set hg _ _).set hg _ _).set hg _ _).set hg _ _
theorem Trk.set5 {N : Nat} {wa wb w : World} {bs : List Nat} {g : Nat} (h : Trk N wa wb bs w) (hg : g ∈ bs) (a b c d e : Value) : Trk N wa wb bs (hset5 w g a b c d e) := ((((h.set hg _ _).set hg _ _).set hg _ _).set hg _ _).set hg _ _
theorem RowAt.far6 {w : World} {g G : Nat} {e : TypeId} {cur : Array Value} (h : RowAt w g e cur) (hne : ¬ g = G) (a b c d e' f : Value) : RowAt (hset6 w G a b c d e' f) g e cur := (((((h.far hne).far hne).far hne).far hne).far hne).far hne
theorem RowAt.far5 {w : World} {g G : Nat} {e : TypeId} {cur : Array Value} (h : RowAt w g e cur) (hne : ¬ g = G) (a b c d e' : Value) : RowAt (hset5 w G a b c d e') g e cur := ((((h.far hne).far hne).far hne).far hne).far hne
theorem fin2 {wr w8 : World} (hb : Below wr.heap.size wr w8) (hz : RowAt w8 wr.heap.size 47 #[.slice none 0 0, .slice none 0 0, .slice none 0 0, .int .i64 0, .bool false, .slice none 0 0]) (h0 h1 h2 h3 h4 h5 a0 a1 a2 a3 a4 : Value) : FinOk wr w8 ((hset6 w8 wr.heap.size h0 h1 h2 h3 h4 h5).alloc (.cells #[a0, a1, a2, a3, a4] 43)) wr.heap.size w8.heap.size h0 h1 h2 h3 h4 h5 a0 a1 a2 a3 a4 := by
  have ht := ((trkH hb (Nat.le_refl _) hz).set6 (g := wr.heap.size) (by simp) h0 h1 h2 h3 h4 h5).alloc (.cells #[a0, a1, a2, a3, a4] 43)
  exact ⟨(row_hset6 hz h0 h1 h2 h3 h4 h5).alloc _, row_new_at _ _ (by simp) _ _, ht.2.1, ht.1⟩
theorem fin4 {wr w8 : World} (hb : Below wr.heap.size wr w8) (hz : RowAt w8 wr.heap.size 43 #[.int .i64 0, .string ⟨#[]⟩, .int .i64 0, .int .i64 0, .int .i64 0]) (h0 h1 h2 h3 h4 h5 a0 a1 a2 a3 a4 : Value) : FinOk wr w8 ((hset5 w8 wr.heap.size a0 a1 a2 a3 a4).alloc (.cells #[h0, h1, h2, h3, h4, h5] 47)) w8.heap.size wr.heap.size h0 h1 h2 h3 h4 h5 a0 a1 a2 a3 a4 := by
  have ht := ((trkA hb (Nat.le_refl _) hz).set5 (g := wr.heap.size) (by simp) a0 a1 a2 a3 a4).alloc (.cells #[h0, h1, h2, h3, h4, h5] 47)
  exact ⟨row_new_at _ _ (by simp) _ _, (row_hset5 hz a0 a1 a2 a3 a4).alloc _, ht.2.1, ht.1⟩
theorem fin35 {wr w8 : World} {G12 G13 : Nat} (hb : Below wr.heap.size wr w8) (hg1 : wr.heap.size ≤ G12) (hg2 : wr.heap.size ≤ G13) (hne : ¬ G12 = G13) (hz : RowAt w8 G12 47 #[.slice none 0 0, .slice none 0 0, .slice none 0 0, .int .i64 0, .bool false, .slice none 0 0]) (hy : RowAt w8 G13 43 #[.int .i64 0, .string ⟨#[]⟩, .int .i64 0, .int .i64 0, .int .i64 0]) (h0 h1 h2 h3 h4 h5 a0 a1 a2 a3 a4 : Value) : FinOk wr w8 (hset5 (hset6 w8 G12 h0 h1 h2 h3 h4 h5) G13 a0 a1 a2 a3 a4) G12 G13 h0 h1 h2 h3 h4 h5 a0 a1 a2 a3 a4 := by
  have htk0 : Trk wr.heap.size wr w8 [G12, G13] w8 := ⟨Bx.refl _, hb, hb.size, fun g hg' => by
    simp only [List.mem_cons, List.not_mem_nil, or_false] at hg'
    rcases hg' with rfl | rfl
    · exact ⟨hg1, _, _, _, hz, by unfold Hard; decide⟩
    · exact ⟨hg2, _, _, _, hy, by unfold Hard; decide⟩⟩
  have ht := (htk0.set6 (g := G12) (by simp) h0 h1 h2 h3 h4 h5).set5 (g := G13) (by simp) a0 a1 a2 a3 a4
  exact ⟨(row_hset6 hz h0 h1 h2 h3 h4 h5).far5 hne a0 a1 a2 a3 a4, row_hset5 (hy.far6 (fun e => hne e.symm) h0 h1 h2 h3 h4 h5) a0 a1 a2 a3 a4, ht.2.1, ht.1⟩
theorem Bx.set6 {w0 w : World} {g : Nat} (h : Bx w0 w) (hg : BoxTy w g) (a b c d e f : Value) : Bx w0 (hset6 w g a b c d e f) := (((((h.set hg).set hg.set).set hg.set.set).set hg.set.set.set).set hg.set.set.set.set).set hg.set.set.set.set.set
theorem OwnR.farset {α : Type} {enc : α → List Value} {k B : Nat} {e : TypeId} {v x : Value} {L : List α} {W0 w : World} {g j : Nat} (h : OwnR enc k B e v L W0 w) (hB : B ≤ g) (hne : v.ownBlock ≠ some g) : OwnR enc k B e v L W0 (w.setCell ⟨g, j, none⟩ x) := by
  obtain ⟨h1, h2, h3⟩ := h
  refine ⟨⟨h1.1, ?_⟩, h2.setCell (p := ⟨g, j, none⟩) hB x, by rw [size_setCell]; exact h3⟩
  rcases h1.2 with hn | ⟨b, cap, cur, hv, hb, hbb, rest⟩
  · exact .inl hn
  · exact .inr ⟨b, cap, cur, hv, hb, by rw [Below.heap_setCell _ _ _ _ (show b ≠ g from fun e => hne (by rw [hv, e]; rfl))]; exact hbb, rest⟩
theorem Bx.grown {w w' : World} {B size n : Nat} {e : TypeId} {v : Value} {xs : List Value} (hrow : w.ownsRow B e size v n xs) (he : ¬ Hard e) (hg : w.grownBy w' v.ownBlock) : Bx w w' :=
  ⟨hg.size, fun k cur T fr hk hT => hg.block k (Array.getElem?_eq_some_iff.1 hk).1 (type_apart (fun e' => he (by rw [e']; exact hT)) hrow hk)⟩
theorem row_grown {w w' : World} {B size n : Nat} {e T : TypeId} {v : Value} {xs : List Value} {g : Nat} {cur : Array Value} (hrow : w.ownsRow B e size v n xs) (he : e ≠ T) (hg : w.grownBy w' v.ownBlock) (h : RowAt w g T cur) : RowAt w' g T cur := by
  unfold RowAt at h ⊢
  rw [hg.block g (Array.getElem?_eq_some_iff.1 h).1 (type_apart he hrow h)]
  exact h
theorem script_step {s0 : EM.St} {l : List EM.Act} {k : Nat} {x : EM.Act} (hx : l[k]? = some x) : (EM.runL s0 (l.take (k + 1))).1 = (EM.step (EM.runL s0 (l.take k)).1 x).1 ∧ (EM.runL s0 (l.take (k + 1))).2 = (EM.runL s0 (l.take k)).2 ++ [(EM.step (EM.runL s0 (l.take k)).1 x).2] := by
  rw [run_step hx]
  exact ⟨rfl, rfl⟩
/-- what ActedOf does, at every action -/
def ActsAll : Prop := ∀ (n : Nat) (hv : Value) (s : EM.St) (a : EM.Act) (w : World), HouseV w hv s → EM.Inv n s → ActOk a →
    Calls Try.prog 12 #[hv, .agg #[.int .i64 a.kind, .int .i64 a.block, .string a.data, .int .i64 a.keep]] w (ActedRet s a w)
/-- the state of ScriptOf's loop -/
def ScSt (w : World) (n : Nat) (l : List EM.Act) (G5 G9 : Nat) (k : Nat) (o : Value) (wr : World) : Prop :=
  ∃ bi bb dv lv, RowAt wr G5 27 #[.slice none 0 0, .slice none 0 0] ∧ RowAt wr G9 47 #[bi, bb, dv, .int .i64 ((EM.runL (EM.start n) (l.take k)).1.last : Int), .bool (EM.runL (EM.start n) (l.take k)).1.op, lv] ∧
    HouseV wr (.agg #[bi, bb, dv, .int .i64 ((EM.runL (EM.start n) (l.take k)).1.last : Int), .bool (EM.runL (EM.start n) (l.take k)).1.op, lv]) (EM.runL (EM.start n) (l.take k)).1 ∧
    OwnR ansC 5 w.heap.size 43 o (EM.runL (EM.start n) (l.take k)).2 w wr

set_option maxRecDepth 100000 in
set_option maxHeartbeats 20000000 in
theorem ScriptOf_ok (hact : ActsAll) (n : Nat) (hn : 1 ≤ n ∧ n ≤ 32) (u : Value) (l : List EM.Act) (hl : l.length ≤ 300) (hok : ∀ a ∈ l, ActOk a) (w : World) (hu : ActsAt w u l) :
    Calls Try.prog 5 #[.int .i64 (n : Int), u] w fun e w' => ∃ v x y, e = .returned (.tuple #[v, .agg #[x, y], .int .i64 0]) ∧ RowsAt ansC 5 w' v (EM.runL (EM.start n) l).2 ∧ VolAt w' (.agg #[x, y]) (EM.runL (EM.start n) l).1.now ∧ Below w.heap.size w w' := by
  obtain ⟨i0, hi, hz0, hz1, hz2⟩ := info_parts infoAns
  have hnew : newOf (n : Int) = (newV n, 0) := by
    unfold newOf
    rw [if_pos (by omega), Int.toNat_natCast]
  obtain ⟨W1, hW1⟩ : ∃ W, W = w.alloc (.cells #[.slice none 0 0, .slice none 0 0] 27) := ⟨_, rfl⟩
  obtain ⟨G5, hG5⟩ : ∃ G, G = w.heap.size := ⟨_, rfl⟩
  have hb1 : Below w.heap.size w W1 := by rw [hW1]; exact below_alloc (Below.refl _ _) _
  have r5 : RowAt W1 G5 27 #[.slice none 0 0, .slice none 0 0] := by rw [hW1]; exact row_new_at _ _ hG5 _ _
  have hvo := VolumeOf_any (n : Int) W1
  rw [hnew] at hvo
  have hV0 : VOk (newV n) := (EM.Inv.start hn).base
  have hV0s := hV0.small
  have hnv : (EM.start n).now = newV n := rfl
  obtain ⟨V0, hV⟩ : ∃ V, V = newV n := ⟨_, rfl⟩
  rw [← hV] at hvo hV0s
  obtain ⟨pu, cu, rfl, hul, hun, huc⟩ := id hu
  have HVO := Lib.hid hvo
  have HU := Lib.hid hu
  have HUC := Lib.hid huc
  have HOK := Lib.hid hok
  have HR5 := Lib.hid r5
  have HB1 := Lib.hid hb1
  have HV := Lib.hid hV
  have HACT := Lib.hid hact
  have HW1 := Lib.hid hW1.symm
  have HG5 := Lib.hid hG5.symm
  have t300 : ¬ (300 : Int) < (l.length : Int) := by omega
  clear hvo hu huc hok r5 hb1 hV hact hW1 hG5 hnew hV0 hnv
  go_enter Try.func5, Try.ntmps5
  go_upto_region 1 with (fail)
  rw [HW1.out, HG5.out]
  go_upto_region 2 with (go_at_call 11; refine HVO.out.mono ?_; rintro e w2 ⟨vi, vb, rfl, ho2⟩; obtain ⟨pi, ci, rfl⟩ := ho2.1.isSlice; obtain ⟨pb, cb, rfl⟩ := ho2.2.1.isSlice)
  have ht2 := ho2.ty (by omega) (by omega)
  have hb12 : Below W1.heap.size W1 w2 := ho2.below
  obtain ⟨W3, hW3⟩ : ∃ W, W = w2.alloc (.cells #[.slice pi V0.items.length ci, .slice pb V0.blocks.length cb] 27) := ⟨_, rfl⟩
  obtain ⟨G7, hG7⟩ : ∃ G, G = w2.heap.size := ⟨_, rfl⟩
  rw [← hW3, ← hG7]
  have hal : Below w2.heap.size w2 W3 := by rw [hW3]; exact below_alloc (Below.refl _ _) _
  have hv7 : VBox W3 G7 (.slice pi V0.items.length ci) (.slice pb V0.blocks.length cb) := by rw [hW3, hG7]; exact VBox.new _ _ _
  obtain ⟨v0, v1, _, _⟩ := hv7.at
  have hb13 : Below W1.heap.size W1 W3 := below_then hb12 hal
  have hb3 := below_then HB1.out hb13
  have HR53 := Lib.hid (HR5.out.past hb13)
  have HT3 := Lib.hid (ht2.keep hal)
  have HB3 := Lib.hid hb3
  clear hW3 hG7 hal ht2 hb12 ho2 hv7 hb13 HR5 HB1
  go_upto_region 8 with (fail)
  obtain ⟨W4, hW4⟩ : ∃ W, W = W3.alloc (.cells #[.slice pi V0.items.length ci, .slice pb V0.blocks.length cb, .slice none 0 0, .int .i64 0, .bool false, .slice none 0 0] 47) := ⟨_, rfl⟩
  obtain ⟨G9, hG9⟩ : ∃ G, G = W3.heap.size := ⟨_, rfl⟩
  rw [← hW4, ← hG9]
  have hal : Below W3.heap.size W3 W4 := by rw [hW4]; exact below_alloc (Below.refl _ _) _
  have r9 : RowAt W4 G9 47 #[.slice pi V0.items.length ci, .slice pb V0.blocks.length cb, .slice none 0 0, .int .i64 0, .bool false, .slice none 0 0] := by rw [hW4]; exact row_new_at _ _ hG9 _ _
  have hst : ScSt w n l G5 G9 0 (.slice none 0 0) W4 := by
    refine ⟨.slice pi V0.items.length ci, .slice pb V0.blocks.length cb, .slice none 0 0, .slice none 0 0, HR53.out.past hal, ?_, ⟨_, _, _, _, rfl, ?_, DealsT.nil W4, InnerAt.nil W4⟩, ?_⟩
    · exact r9
    · have := HT3.out.keep hal
      rw [HV.out] at this ⊢
      exact this
    · exact OwnR.nil (below_then HB3.out hal) (Nat.le_trans HB3.out.size hal.size)
  have hG59 : G5 ≠ G9 := by
    intro e
    have := HR53.out.lt
    rw [e, hG9] at this
    omega
  have hG9w : w.heap.size ≤ G9 := by rw [hG9]; exact HB3.out.size
  have hG5w : w.heap.size ≤ G5 := by rw [← HG5.out]; exact Nat.le_refl _
  have HST0 := Lib.hid hst
  clear hst r9 hal hW4 hG9 HR53 HT3 HB3 v0 v1 HG5
  go_wp2
  go_loopw [10, 11] (fun o i wr => ∃ k : Nat, k ≤ l.length ∧ i = .int .i64 (k : Int) ∧ Hid (ScSt w n l G5 G9 k o wr)) (fun _ i _ => l.length - (intOf i).toNat)
  case atStart => exact ⟨0, Nat.zero_le _, rfl, HST0⟩
  case round =>
    clear HST0
    obtain ⟨k, hk, rfl, HR⟩ := hrel
    obtain ⟨bi, bb, dv, lv, r5, r9, hh, hown⟩ := HR.out
    obtain ⟨po, co, rfl⟩ := hown.isSlice
    have hbr : Below w.heap.size w wr := hown.below
    have hI := EM.runL_inv (l.take k) (EM.Inv.start hn)
    obtain ⟨s, hs⟩ : ∃ s, s = (EM.runL (EM.start n) (l.take k)).1 := ⟨_, rfl⟩
    obtain ⟨AL, hAL⟩ : ∃ AL, AL = (EM.runL (EM.start n) (l.take k)).2 := ⟨_, rfl⟩
    have hALk : AL.length = k := by rw [hAL, EM.runL_len, List.length_take]; omega
    rw [← hs] at r9 hh hI
    rw [← hAL] at hown ⊢
    have h0 := r9.cell 0
    have h1 := r9.cell 1
    have h2 := r9.cell 2
    have h3 := r9.cell 3
    have h4 := r9.cell 4
    have h5 := r9.cell 5
    simp only [List.getElem?_toArray, List.getElem?_cons_zero, List.getElem?_cons_succ] at h0 h1 h2 h3 h4 h5
    have R5 := Lib.hid r5
    have R9 := Lib.hid r9
    have HH := Lib.hid hh
    have HOWN := Lib.hid hown
    have HINV := Lib.hid hI
    have HS := Lib.hid hs
    have HAL := Lib.hid hAL
    have HALK := Lib.hid hALk
    clear HR r5 hh hown hI hs hAL hALk
    by_cases hlt : k < l.length
    · obtain ⟨x, hx⟩ : ∃ x, l[k]? = some x := ⟨l[k], List.getElem?_eq_getElem hlt⟩
      obtain ⟨b, off, rfl, hbl, hcx⟩ := HUC.out k x hx
      have c0 := (hbr.cell (p := ⟨b, off + k * 4 + 0, none⟩) hbl).trans (hcx 0 (by decide))
      have c1 := (hbr.cell (p := ⟨b, off + k * 4 + 1, none⟩) hbl).trans (hcx 1 (by decide))
      have c2 := (hbr.cell (p := ⟨b, off + k * 4 + 2, none⟩) hbl).trans (hcx 2 (by decide))
      have c3 := (hbr.cell (p := ⟨b, off + k * 4 + 3, none⟩) hbl).trans (hcx 3 (by decide))
      simp only [actC, List.getElem?_cons_zero, List.getElem?_cons_succ, Nat.add_zero] at c0 c1 c2 c3
      have hblr := Nat.lt_of_lt_of_le hbl hbr.size
      have hac : ∀ X, Below wr.heap.size wr X → Calls Try.prog 12 #[.agg #[bi, bb, dv, .int .i64 (s.last : Int), .bool s.op, lv], .agg #[.int .i64 x.kind, .int .i64 x.block, .string x.data, .int .i64 x.keep]] X (ActedRet s x X) := fun X hX => HACT.out n _ s x X (HH.out.bx (.of_below hX)) HINV.out (HOK.out x (List.mem_of_getElem? hx))
      have HAC := Lib.hid hac
      have HX := Lib.hid hx
      have hkl : (k : Int) < (l.length : Int) := by omega
      have h9l := r9.lt
      clear hac hx hcx r9
      have hS : ∀ w', Below wr.heap.size wr w' → w'.cell? ⟨G9, 0, none⟩ = some (bi) ∧ w'.cell? ⟨G9, 1, none⟩ = some (bb) ∧ w'.cell? ⟨G9, 2, none⟩ = some (dv) ∧ w'.cell? ⟨G9, 3, none⟩ = some (.int .i64 (s.last : Int)) ∧ w'.cell? ⟨G9, 4, none⟩ = some (.bool s.op) ∧ w'.cell? ⟨G9, 5, none⟩ = some (lv) ∧ w'.cell? ⟨b, off + k * 4, none⟩ = some (.int .i64 x.kind) ∧ w'.cell? ⟨b, off + k * 4 + 1, none⟩ = some (.int .i64 x.block) ∧ w'.cell? ⟨b, off + k * 4 + 2, none⟩ = some (.string x.data) ∧ w'.cell? ⟨b, off + k * 4 + 3, none⟩ = some (.int .i64 x.keep) := fun w' hb' => ⟨(hb'.cell (p := ⟨G9, 0, none⟩) h9l).trans h0, (hb'.cell (p := ⟨G9, 1, none⟩) h9l).trans h1, (hb'.cell (p := ⟨G9, 2, none⟩) h9l).trans h2, (hb'.cell (p := ⟨G9, 3, none⟩) h9l).trans h3, (hb'.cell (p := ⟨G9, 4, none⟩) h9l).trans h4, (hb'.cell (p := ⟨G9, 5, none⟩) h9l).trans h5, (hb'.cell (p := ⟨b, _, none⟩) hblr).trans c0, (hb'.cell (p := ⟨b, _, none⟩) hblr).trans c1, (hb'.cell (p := ⟨b, _, none⟩) hblr).trans c2, (hb'.cell (p := ⟨b, _, none⟩) hblr).trans c3⟩
      have HSS := Lib.hid hS
      clear hS
      go_wp2
      go_region_held3 (fun w' => w'.cell? ⟨G9, 0, none⟩ = some (bi) ∧ w'.cell? ⟨G9, 1, none⟩ = some (bb) ∧ w'.cell? ⟨G9, 2, none⟩ = some (dv) ∧ w'.cell? ⟨G9, 3, none⟩ = some (.int .i64 (s.last : Int)) ∧ w'.cell? ⟨G9, 4, none⟩ = some (.bool s.op) ∧ w'.cell? ⟨G9, 5, none⟩ = some (lv) ∧ w'.cell? ⟨b, off + k * 4, none⟩ = some (.int .i64 x.kind) ∧ w'.cell? ⟨b, off + k * 4 + 1, none⟩ = some (.int .i64 x.block) ∧ w'.cell? ⟨b, off + k * 4 + 2, none⟩ = some (.string x.data) ∧ w'.cell? ⟨b, off + k * 4 + 3, none⟩ = some (.int .i64 x.keep))
        (((refine HSS.out _ ?_); (repeat (first | with_reducible exact HB8W.out | with_reducible exact Below.refl _ _ | with_reducible refine Below.drew ?_ | with_reducible refine below_alloc ?_ _ | with_reducible refine Below.setCell ?_ (by first | exact Nat.le_refl _ | exact Nat.le_succ _ | omega | (show wr.heap.size ≤ _; omega)) _))))
        ((go_at_call 12; refine (HAC.out _ (by first | exact (Below.refl _ _).drew | exact below_alloc (Below.refl _ _).drew _ | exact below_alloc (below_alloc (Below.refl _ _).drew _) _ | exact below_alloc (below_alloc (Below.refl _ _) _).drew _ | exact (below_alloc (Below.refl _ _) _).drew | exact (below_alloc (below_alloc (Below.refl _ _) _) _).drew)).mono ?_; rintro e w8 ⟨hv8, rfl, hh8, hb8⟩; obtain ⟨bi8, bb8, dv8, lv8, rfl, hty8, hdl8, hwr8⟩ := hh8; (obtain ⟨p8, c8, q8, d8, rfl, rfl⟩ := hty8.slices); (obtain ⟨r8, e8, rfl, _, _⟩ := hdl8.slice); (obtain ⟨t8, f8, rfl⟩ := hwr8.slice); have HTY8 := Lib.hid hty8; have HDL8 := Lib.hid hdl8; have HWR8 := Lib.hid hwr8; have HB8 := Lib.hid hb8; (have hbw8 : Below wr.heap.size wr w8 := below_then (by first | exact (Below.refl _ _).drew | exact (below_alloc (Below.refl _ _) _).drew | exact (below_alloc (below_alloc (Below.refl _ _) _) _).drew) hb8); have hsz8 := hbw8.size; have HB8W := Lib.hid hbw8; clear hbw8; (first | ((with_reducible have hz := zHA_of (w := wr) hb8); have HZH := Lib.hid hz.1; have HZA := Lib.hid hz.2; (obtain ⟨⟨zh0, zh1, zh2, zh3, zh4, zh5⟩, zhf, zhl, zhn, zhm⟩ := zeroH hz.1); (obtain ⟨⟨za0, za1, za2, za3, za4⟩, zaf, zal, zan, zam⟩ := zeroA hz.2); clear hz) | ((with_reducible have hz := zAH_of (w := wr) hb8); have HZH := Lib.hid hz.2; have HZA := Lib.hid hz.1; (obtain ⟨⟨zh0, zh1, zh2, zh3, zh4, zh5⟩, zhf, zhl, zhn, zhm⟩ := zeroH hz.2); (obtain ⟨⟨za0, za1, za2, za3, za4⟩, zaf, zal, zan, zam⟩ := zeroA hz.1); clear hz) | ((with_reducible have hz := zH_of (w := wr) hb8); have HZH := Lib.hid hz; (obtain ⟨⟨zh0, zh1, zh2, zh3, zh4, zh5⟩, zhf, zhl, zhn, zhm⟩ := zeroH hz); clear hz) | ((with_reducible have hz := zA_of (w := wr) hb8); have HZA := Lib.hid hz; (obtain ⟨⟨za0, za1, za2, za3, za4⟩, zaf, zal, zan, zam⟩ := zeroA hz); clear hz) | skip); clear hty8 hdl8 hwr8 hb8))
      have hrow := fin0 HB8W.out (.slice p8 (EM.step s x).1.base.items.length c8) (.slice q8 (EM.step s x).1.base.blocks.length d8) (.slice r8 (EM.step s x).1.deals.length e8) (.int .i64 ((EM.step s x).1.last : Int)) (.bool (EM.step s x).1.op) (.slice t8 (EM.step s x).1.l.length f8) (.int .i64 (EM.step s x).2.code) (.string (EM.step s x).2.data) (.int .i64 (EM.step s x).2.items) (.int .i64 (EM.step s x).2.log) (.int .i64 (EM.step s x).2.count)
      change Exit.then _ _ _ _ ((w8.alloc (.cells #[.slice p8 (EM.step s x).1.base.items.length c8, .slice q8 (EM.step s x).1.base.blocks.length d8, .slice r8 (EM.step s x).1.deals.length e8, .int .i64 ((EM.step s x).1.last : Int), .bool (EM.step s x).1.op, .slice t8 (EM.step s x).1.l.length f8] 47)).alloc (.cells #[.int .i64 (EM.step s x).2.code, .string (EM.step s x).2.data, .int .i64 (EM.step s x).2.items, .int .i64 (EM.step s x).2.log, .int .i64 (EM.step s x).2.count] 43))
      generalize ((w8.alloc (.cells #[.slice p8 (EM.step s x).1.base.items.length c8, .slice q8 (EM.step s x).1.base.blocks.length d8, .slice r8 (EM.step s x).1.deals.length e8, .int .i64 ((EM.step s x).1.last : Int), .bool (EM.step s x).1.op, .slice t8 (EM.step s x).1.l.length f8] 47)).alloc (.cells #[.int .i64 (EM.step s x).2.code, .string (EM.step s x).2.data, .int .i64 (EM.step s x).2.items, .int .i64 (EM.step s x).2.log, .int .i64 (EM.step s x).2.count] 43)) = W9 at hrow ⊢
      generalize w8.heap.size + 1 = G13 at hrow ⊢
      generalize w8.heap.size = G12 at hrow ⊢
      rotate_left
      have hrow := fin1 HB8W.out (.slice p8 (EM.step s x).1.base.items.length c8) (.slice q8 (EM.step s x).1.base.blocks.length d8) (.slice r8 (EM.step s x).1.deals.length e8) (.int .i64 ((EM.step s x).1.last : Int)) (.bool (EM.step s x).1.op) (.slice t8 (EM.step s x).1.l.length f8) (.int .i64 (EM.step s x).2.code) (.string (EM.step s x).2.data) (.int .i64 (EM.step s x).2.items) (.int .i64 (EM.step s x).2.log) (.int .i64 (EM.step s x).2.count)
      change Exit.then _ _ _ _ ((w8.alloc (.cells #[.int .i64 (EM.step s x).2.code, .string (EM.step s x).2.data, .int .i64 (EM.step s x).2.items, .int .i64 (EM.step s x).2.log, .int .i64 (EM.step s x).2.count] 43)).alloc (.cells #[.slice p8 (EM.step s x).1.base.items.length c8, .slice q8 (EM.step s x).1.base.blocks.length d8, .slice r8 (EM.step s x).1.deals.length e8, .int .i64 ((EM.step s x).1.last : Int), .bool (EM.step s x).1.op, .slice t8 (EM.step s x).1.l.length f8] 47))
      generalize ((w8.alloc (.cells #[.int .i64 (EM.step s x).2.code, .string (EM.step s x).2.data, .int .i64 (EM.step s x).2.items, .int .i64 (EM.step s x).2.log, .int .i64 (EM.step s x).2.count] 43)).alloc (.cells #[.slice p8 (EM.step s x).1.base.items.length c8, .slice q8 (EM.step s x).1.base.blocks.length d8, .slice r8 (EM.step s x).1.deals.length e8, .int .i64 ((EM.step s x).1.last : Int), .bool (EM.step s x).1.op, .slice t8 (EM.step s x).1.l.length f8] 47)) = W9 at hrow ⊢
      generalize w8.heap.size + 1 = G12 at hrow ⊢
      generalize w8.heap.size = G13 at hrow ⊢
      rotate_left
      have hrow := fin2 HB8W.out HZH.out (.slice p8 (EM.step s x).1.base.items.length c8) (.slice q8 (EM.step s x).1.base.blocks.length d8) (.slice r8 (EM.step s x).1.deals.length e8) (.int .i64 ((EM.step s x).1.last : Int)) (.bool (EM.step s x).1.op) (.slice t8 (EM.step s x).1.l.length f8) (.int .i64 (EM.step s x).2.code) (.string (EM.step s x).2.data) (.int .i64 (EM.step s x).2.items) (.int .i64 (EM.step s x).2.log) (.int .i64 (EM.step s x).2.count)
      change Exit.then _ _ _ _ ((hset6 w8 wr.heap.size (.slice p8 (EM.step s x).1.base.items.length c8) (.slice q8 (EM.step s x).1.base.blocks.length d8) (.slice r8 (EM.step s x).1.deals.length e8) (.int .i64 ((EM.step s x).1.last : Int)) (.bool (EM.step s x).1.op) (.slice t8 (EM.step s x).1.l.length f8)).alloc (.cells #[.int .i64 (EM.step s x).2.code, .string (EM.step s x).2.data, .int .i64 (EM.step s x).2.items, .int .i64 (EM.step s x).2.log, .int .i64 (EM.step s x).2.count] 43))
      generalize ((hset6 w8 wr.heap.size (.slice p8 (EM.step s x).1.base.items.length c8) (.slice q8 (EM.step s x).1.base.blocks.length d8) (.slice r8 (EM.step s x).1.deals.length e8) (.int .i64 ((EM.step s x).1.last : Int)) (.bool (EM.step s x).1.op) (.slice t8 (EM.step s x).1.l.length f8)).alloc (.cells #[.int .i64 (EM.step s x).2.code, .string (EM.step s x).2.data, .int .i64 (EM.step s x).2.items, .int .i64 (EM.step s x).2.log, .int .i64 (EM.step s x).2.count] 43)) = W9 at hrow ⊢
      generalize wr.heap.size = G12 at hrow ⊢
      generalize w8.heap.size = G13 at hrow ⊢
      rotate_left
      have hrow := fin35 (G12 := wr.heap.size) (G13 := wr.heap.size + 1) HB8W.out (by omega) (by omega) (by omega) HZH.out HZA.out (.slice p8 (EM.step s x).1.base.items.length c8) (.slice q8 (EM.step s x).1.base.blocks.length d8) (.slice r8 (EM.step s x).1.deals.length e8) (.int .i64 ((EM.step s x).1.last : Int)) (.bool (EM.step s x).1.op) (.slice t8 (EM.step s x).1.l.length f8) (.int .i64 (EM.step s x).2.code) (.string (EM.step s x).2.data) (.int .i64 (EM.step s x).2.items) (.int .i64 (EM.step s x).2.log) (.int .i64 (EM.step s x).2.count)
      change Exit.then _ _ _ _ (hset5 (hset6 w8 wr.heap.size (.slice p8 (EM.step s x).1.base.items.length c8) (.slice q8 (EM.step s x).1.base.blocks.length d8) (.slice r8 (EM.step s x).1.deals.length e8) (.int .i64 ((EM.step s x).1.last : Int)) (.bool (EM.step s x).1.op) (.slice t8 (EM.step s x).1.l.length f8)) (wr.heap.size + 1) (.int .i64 (EM.step s x).2.code) (.string (EM.step s x).2.data) (.int .i64 (EM.step s x).2.items) (.int .i64 (EM.step s x).2.log) (.int .i64 (EM.step s x).2.count))
      generalize (hset5 (hset6 w8 wr.heap.size (.slice p8 (EM.step s x).1.base.items.length c8) (.slice q8 (EM.step s x).1.base.blocks.length d8) (.slice r8 (EM.step s x).1.deals.length e8) (.int .i64 ((EM.step s x).1.last : Int)) (.bool (EM.step s x).1.op) (.slice t8 (EM.step s x).1.l.length f8)) (wr.heap.size + 1) (.int .i64 (EM.step s x).2.code) (.string (EM.step s x).2.data) (.int .i64 (EM.step s x).2.items) (.int .i64 (EM.step s x).2.log) (.int .i64 (EM.step s x).2.count)) = W9 at hrow ⊢
      generalize wr.heap.size + 1 = G13 at hrow ⊢
      generalize wr.heap.size = G12 at hrow ⊢
      rotate_left
      have hrow := fin4 HB8W.out HZA.out (.slice p8 (EM.step s x).1.base.items.length c8) (.slice q8 (EM.step s x).1.base.blocks.length d8) (.slice r8 (EM.step s x).1.deals.length e8) (.int .i64 ((EM.step s x).1.last : Int)) (.bool (EM.step s x).1.op) (.slice t8 (EM.step s x).1.l.length f8) (.int .i64 (EM.step s x).2.code) (.string (EM.step s x).2.data) (.int .i64 (EM.step s x).2.items) (.int .i64 (EM.step s x).2.log) (.int .i64 (EM.step s x).2.count)
      change Exit.then _ _ _ _ ((hset5 w8 wr.heap.size (.int .i64 (EM.step s x).2.code) (.string (EM.step s x).2.data) (.int .i64 (EM.step s x).2.items) (.int .i64 (EM.step s x).2.log) (.int .i64 (EM.step s x).2.count)).alloc (.cells #[.slice p8 (EM.step s x).1.base.items.length c8, .slice q8 (EM.step s x).1.base.blocks.length d8, .slice r8 (EM.step s x).1.deals.length e8, .int .i64 ((EM.step s x).1.last : Int), .bool (EM.step s x).1.op, .slice t8 (EM.step s x).1.l.length f8] 47))
      generalize ((hset5 w8 wr.heap.size (.int .i64 (EM.step s x).2.code) (.string (EM.step s x).2.data) (.int .i64 (EM.step s x).2.items) (.int .i64 (EM.step s x).2.log) (.int .i64 (EM.step s x).2.count)).alloc (.cells #[.slice p8 (EM.step s x).1.base.items.length c8, .slice q8 (EM.step s x).1.base.blocks.length d8, .slice r8 (EM.step s x).1.deals.length e8, .int .i64 ((EM.step s x).1.last : Int), .bool (EM.step s x).1.op, .slice t8 (EM.step s x).1.l.length f8] 47)) = W9 at hrow ⊢
      generalize w8.heap.size = G12 at hrow ⊢
      generalize wr.heap.size = G13 at hrow ⊢
      rotate_left
      have hrow := fin35 (G12 := wr.heap.size + 1) (G13 := wr.heap.size) HB8W.out (by omega) (by omega) (by omega) HZH.out HZA.out (.slice p8 (EM.step s x).1.base.items.length c8) (.slice q8 (EM.step s x).1.base.blocks.length d8) (.slice r8 (EM.step s x).1.deals.length e8) (.int .i64 ((EM.step s x).1.last : Int)) (.bool (EM.step s x).1.op) (.slice t8 (EM.step s x).1.l.length f8) (.int .i64 (EM.step s x).2.code) (.string (EM.step s x).2.data) (.int .i64 (EM.step s x).2.items) (.int .i64 (EM.step s x).2.log) (.int .i64 (EM.step s x).2.count)
      change Exit.then _ _ _ _ (hset5 (hset6 w8 (wr.heap.size + 1) (.slice p8 (EM.step s x).1.base.items.length c8) (.slice q8 (EM.step s x).1.base.blocks.length d8) (.slice r8 (EM.step s x).1.deals.length e8) (.int .i64 ((EM.step s x).1.last : Int)) (.bool (EM.step s x).1.op) (.slice t8 (EM.step s x).1.l.length f8)) wr.heap.size (.int .i64 (EM.step s x).2.code) (.string (EM.step s x).2.data) (.int .i64 (EM.step s x).2.items) (.int .i64 (EM.step s x).2.log) (.int .i64 (EM.step s x).2.count))
      generalize (hset5 (hset6 w8 (wr.heap.size + 1) (.slice p8 (EM.step s x).1.base.items.length c8) (.slice q8 (EM.step s x).1.base.blocks.length d8) (.slice r8 (EM.step s x).1.deals.length e8) (.int .i64 ((EM.step s x).1.last : Int)) (.bool (EM.step s x).1.op) (.slice t8 (EM.step s x).1.l.length f8)) wr.heap.size (.int .i64 (EM.step s x).2.code) (.string (EM.step s x).2.data) (.int .i64 (EM.step s x).2.items) (.int .i64 (EM.step s x).2.log) (.int .i64 (EM.step s x).2.count)) = W9 at hrow ⊢
      generalize wr.heap.size + 1 = G12 at hrow ⊢
      generalize wr.heap.size = G13 at hrow ⊢
      rotate_left
      all_goals
        obtain ⟨r12, r13, hb9, hbx9⟩ := hrow
        have hc := r12
        have hh0 := r12.cell 0
        have hh1 := r12.cell 1
        have hh2 := r12.cell 2
        have hh3 := r12.cell 3
        have hh4 := r12.cell 4
        have hh5 := r12.cell 5
        have hq0 := r13.cell 0
        have hq1 := r13.cell 1
        have hq2 := r13.cell 2
        have hq3 := r13.cell 3
        have hq4 := r13.cell 4
        have R99 := R9.out.past hb9
        have hy0 := R99.cell 0
        have hy1 := R99.cell 1
        have hy2 := R99.cell 2
        have hy3 := R99.cell 3
        have hy4 := R99.cell 4
        have hy5 := R99.cell 5
        have hyf := R99.fz
        simp only [List.getElem?_toArray, List.getElem?_cons_zero, List.getElem?_cons_succ] at hh0 hh1 hh2 hh3 hh4 hh5 hq0 hq1 hq2 hq3 hq4 hy0 hy1 hy2 hy3 hy4 hy5
        have hne : ¬ G9 = G13 := by
          intro e
          have h1 := r13
          rw [← e] at h1
          have h2 := R99
          unfold RowAt at h1 h2
          rw [h1] at h2
          simp only [Option.some.injEq, Obj.cells.injEq] at h2
          exact absurd h2.2.1 (by decide)
        have hne' : ¬ G13 = G9 := fun e => hne e.symm
        have hown9 := HOWN.out.past hb9
        have hoff : (Value.slice po AL.length co).ownBlock ≠ some G9 := fun e => type_apart (by decide) hown9.1 R99 e.symm
        have hownX := (((((hown9.farset (j := 0) (x := .slice p8 (EM.step s x).1.base.items.length c8) hG9w hoff).farset (j := 1) (x := .slice q8 (EM.step s x).1.base.blocks.length d8) hG9w hoff).farset (j := 2) (x := .slice r8 (EM.step s x).1.deals.length e8) hG9w hoff).farset (j := 3) (x := .int .i64 ((EM.step s x).1.last : Int)) hG9w hoff).farset (j := 4) (x := .bool (EM.step s x).1.op) hG9w hoff).farset (j := 5) (x := .slice t8 (EM.step s x).1.l.length f8) hG9w hoff
        have rX9 := row_hset6 R99 (.slice p8 (EM.step s x).1.base.items.length c8) (.slice q8 (EM.step s x).1.base.blocks.length d8) (.slice r8 (EM.step s x).1.deals.length e8) (.int .i64 ((EM.step s x).1.last : Int)) (.bool (EM.step s x).1.op) (.slice t8 (EM.step s x).1.l.length f8)
        have rX5 := (R5.out.past hb9).far6 hG59 (.slice p8 (EM.step s x).1.base.items.length c8) (.slice q8 (EM.step s x).1.base.blocks.length d8) (.slice r8 (EM.step s x).1.deals.length e8) (.int .i64 ((EM.step s x).1.last : Int)) (.bool (EM.step s x).1.op) (.slice t8 (EM.step s x).1.l.length f8)
        have hbxX := hbx9.trans ((Bx.refl W9).set6 (g := G9) ⟨_, _, _, R99, by unfold Hard; decide⟩ (.slice p8 (EM.step s x).1.base.items.length c8) (.slice q8 (EM.step s x).1.base.blocks.length d8) (.slice r8 (EM.step s x).1.deals.length e8) (.int .i64 ((EM.step s x).1.last : Int)) (.bool (EM.step s x).1.op) (.slice t8 (EM.step s x).1.l.length f8))
        have hALk := HALK.out
        have HOX := Lib.hid hownX
        have HRX9 := Lib.hid rX9
        have HRX5 := Lib.hid rX5
        have HBX := Lib.hid hbxX
        have hALn : AL.length ≤ 300 := by omega
        clear hc r12 r13 hb9 hbx9 R99 hown9 hownX rX9 rX5 hbxX hALk h0 h1 h2 h3 h4 h5 c0 c1 c2 c3 hblr h9l HSS HAC hoff
        (try clear zh0 zh1 zh2 zh3 zh4 zh5 zhf zhl zhn zhm)
        (try clear za0 za1 za2 za3 za4 zaf zal zan zam)
        go_wp2_with (at_builtin; refine wpList_own_r ansE rfl (.tmp 48) (.tmp 50) 23 rfl _ 43 i0 _ 48 Try.underlying23 hi hz0 rfl hz1 hz2 _ AL rfl w _ (EM.step s x).2 _ rfl HOX.out _ rfl (by simp) (by omega) (by omega) ?_; intro v9 w9 ho9 hg9)
        go_roundw
        case rel =>
          refine ⟨k + 1, by omega, by first | rfl | go_num, Lib.hid ?_⟩
          obtain ⟨e1, e2⟩ := script_step (s0 := EM.start n) HX.out
          rw [← HS.out] at e1 e2
          rw [← HAL.out] at e2
          have hbg := Bx.grown HOX.out.1 (by unfold Hard; decide) hg9
          have hbz := HBX.out.trans hbg
          unfold ScSt
          rw [e1, e2]
          exact ⟨_, _, _, _, row_grown HOX.out.1 (by decide) hg9 HRX5.out, row_grown HOX.out.1 (by decide) hg9 HRX9.out, ⟨_, _, _, _, rfl, HTY8.out.bx hbz, HDL8.out.bx hbz, HWR8.out.bx hbz⟩, ho9⟩
        case measure => simp [intOf]; omega
    · have hke : k = l.length := by omega
      have hfs : s = (EM.runL (EM.start n) l).1 := by rw [HS.out, hke, List.take_length]
      have hfa : AL = (EM.runL (EM.start n) l).2 := by rw [HAL.out, hke, List.take_length]
      have HFS := Lib.hid hfs
      have HFA := Lib.hid hfa
      have hnw := HINV.out.now.1
      have hsm := hnw.small
      have HBR := Lib.hid hbr
      clear hfs hfa hke HS HAL
      go_wp2_with (first
        | (go_at_call 14; refine (Now_any _ s _ HH.out HINV.out.base HINV.out.each).mono ?_; rintro e w2 ⟨x2, y2, rfl, ht2, hb2⟩)
        | (go_at_call 13; refine (VolumeCopy_any _ s.now _ ht2.at (by omega) (by omega)).mono ?_; rintro e w3 ⟨vi, vb, rfl, ho3⟩; obtain ⟨p3, c3, rfl⟩ := ho3.1.isSlice; obtain ⟨q3, d3, rfl⟩ := ho3.2.1.isSlice; (have R53 := (R5.out.past hb2).past ho3.below); have k50 := R53.cell 0; have k51 := R53.cell 1; have k5f := R53.fz; simp only [List.getElem?_toArray, List.getElem?_cons_zero, List.getElem?_cons_succ] at k50 k51))
      have h52 : G5 < w2.heap.size := (R5.out.past hb2).lt
      have hownf := (HOWN.out.past hb2).past ho3.below
      have hoff : (Value.slice po AL.length co).ownBlock ≠ some G5 := fun e => type_apart (by decide) hownf.1 R53 e.symm
      have hf := (hownf.farset (j := 0) (x := .slice p3 s.now.items.length c3) hG5w hoff).farset (j := 1) (x := .slice q3 s.now.blocks.length d3) hG5w hoff
      have hvf := (((ho3.setBox (k := 0) (x := .slice p3 s.now.items.length c3) h52).setBox (k := 1) (x := .slice q3 s.now.blocks.length d3) h52)).vol (by omega) (by omega)
      have hlA := HALK.out
      have hfr : RowsAt ansC 5 ((w3.setCell ⟨G5, 0, none⟩ (.slice p3 s.now.items.length c3)).setCell ⟨G5, 1, none⟩ (.slice q3 s.now.blocks.length d3)) (.slice po AL.length co) (EM.runL (EM.start n) l).2 := by
        have h := hf.rows ansE (by omega)
        rw [← HFA.out]
        exact h
      have hvr : VolAt ((w3.setCell ⟨G5, 0, none⟩ (.slice p3 s.now.items.length c3)).setCell ⟨G5, 1, none⟩ (.slice q3 s.now.blocks.length d3)) (.agg #[.slice p3 s.now.items.length c3, .slice q3 s.now.blocks.length d3]) (EM.runL (EM.start n) l).1.now := by
        rw [← HFS.out]
        exact hvf
      exact bodyPost_ret (v := .tuple #[.slice po AL.length co, .agg #[.slice p3 s.now.items.length c3, .slice q3 s.now.blocks.length d3], .int .i64 0]) (by simp [results, Try.results5, go_sem, k50, k51]) rfl ⟨_, _, _, rfl, hfr, hvr, hf.below⟩
end Go.Proofs.Ythjaanhkmfiajac
