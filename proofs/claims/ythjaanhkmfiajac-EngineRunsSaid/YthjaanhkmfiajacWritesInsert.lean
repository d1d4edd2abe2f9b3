/- slices.Insert of one write into a row that the call owns; nothing but that row is written. Condition: as its statement lists. -/
import Derived.Test.YthjaanhkmfiajacItemsInsert
import Derived.Test.YthjaanhkmfiajacPure
namespace Go.Proofs.Ythjaanhkmfiajac
open Go.RowKit

theorem wcells_take (M : List Wr) (k : Nat) (hk : k ≤ M.length) : wcells (M.take k) = (wcells M).take (k * 2) := by
  have e : wcells M = wcells (M.take k) ++ wcells (M.drop k) := by rw [← wcells_append, List.take_append_drop]
  have el : (wcells (M.take k)).length = k * 2 := by rw [wcells_length, List.length_take]; omega
  rw [e, ← el, List.take_left]
theorem wcells_drop (M : List Wr) (k : Nat) (hk : k ≤ M.length) : wcells (M.drop k) = (wcells M).drop (k * 2) := by
  have e : wcells M = wcells (M.take k) ++ wcells (M.drop k) := by rw [← wcells_append, List.take_append_drop]
  have el : (wcells (M.take k)).length = k * 2 := by rw [wcells_length, List.length_take]; omega
  rw [e, ← el, List.drop_left]

/-- block vb holds the one write y -/
def OneWAt (w : World) (vb : Nat) (y : Wr) : Prop := RowAt w vb 61 #[.int .i64 y.block, .string y.data]
theorem OneWAt.cells {w : World} {vb : Nat} {y : Wr} (h : OneWAt w vb y) : ∀ j u, (wcells [y])[j]? = some u → w.cell? ⟨vb, j, none⟩ = some u := by
  intro j u hu
  rw [h.cell]
  match j, hu with
  | 0, hu => simpa [wcells] using hu
  | 1, hu => simpa [wcells] using hu
  | j + 2, hu => simp [wcells] at hu
theorem OwnW.row {B g cap n : Nat} {e : TypeId} {L : List Wr} {W0 w : World} (h : OwnW B e (.slice (some ⟨g, 0, none⟩) n cap) L W0 w) :
    ∃ cur, RowAt w g e cur ∧ n = L.length ∧ B ≤ g ∧ L.length ≤ cap ∧ cap ≤ maxLen ∧ cur.size = cap * 2 ∧ cur.toList.take (L.length * 2) = wcells L := by
  rcases h.1.2 with ⟨h', _⟩ | ⟨g', cap', cur, h', hB, hg, hcap, hmx, hsz, htk⟩
  · cases h'
  · cases h'
    exact ⟨cur, hg, rfl, hB, hcap, hmx, hsz, htk⟩
theorem OwnW.ofRow {B g cap : Nat} {e : TypeId} {L : List Wr} {W0 w : World} {cur : Array Value} (hr : RowAt w g e cur) (hB : B ≤ g) (hcap : L.length ≤ cap) (hmx : cap ≤ maxLen) (hsz : cur.size = cap * 2)
    (htk : cur.toList.take (L.length * 2) = wcells L) (hb : Below B W0 w) : OwnW B e (.slice (some ⟨g, 0, none⟩) L.length cap) L W0 w :=
  ⟨⟨wcells_length L, .inr ⟨g, cap, cur, rfl, hB, hr, hcap, hmx, hsz, htk⟩⟩, hb, Nat.le_trans hB (Nat.le_of_lt hr.lt)⟩
theorem grown_row {w w1 : World} {r : Option Nat} (h : w.grownBy w1 r) {g : Nat} (hg : r = some g ∨ w.heap.size ≤ g) (cs : Array Value) : w.grownBy (w1.setRow g cs) r :=
  ⟨h.os, h.tape, h.output, by have := h.size; simp only [World.setRow, Array.size_modify]; exact this, fun k hk hne => by
    rw [setRow_other _ _ _ _ (show k ≠ g from fun e => by
      subst e
      rcases hg with hg | hg
      · exact hne hg.symm
      · omega)]
    exact h.block k hk hne⟩
theorem grown_drew {w w1 : World} {r : Option Nat} (h : w.grownBy w1 r) : w.grownBy w1.drew r := ⟨h.os, h.tape, h.output, h.size, h.block⟩
theorem grown_refl (w : World) (r : Option Nat) : w.grownBy w r := ⟨rfl, rfl, rfl, Nat.le_refl _, fun _ _ _ => rfl⟩
theorem grown_alloc {w w1 : World} {r : Option Nat} (h : w.grownBy w1 r) (o : Obj) : w.grownBy (w1.alloc o) r := ⟨h.os, h.tape, h.output, Nat.le_trans h.size (by simp), fun k hk hne => by
  rw [Below.heap_alloc _ _ _ (Nat.lt_of_lt_of_le hk h.size)]
  exact h.block k hk hne⟩

section
variable {P : Program}
/-- a whole slice of one write more -/
theorem wpList_own_wone {ops : Array Oper} {rest : List Oper} {o : Oper} {a : Act} {Q : Exit → Act → World → Prop} {w : World} (hgd : o.guard = none) (s x : Operand) (t : TypeId)
    (ho : o.op = .call { callee := .builtin .append, args := #[s, x], argTypes := #[t, t] })
    (B : Nat) (i : TypeInfo) (z : Value) (ht : P.underlying t = some (.slice 61)) (hi : P.info? 61 = some i) (hz : i.zero = some z) (hzs : z.cells.size = 2) (hsize : i.size = 2) (hby : i.bytes = 24)
    (v : Value) (L : List Wr) (hs : a.eval s = v) (W0 : World) (y : Wr) (vb : Nat) (hb : OwnW B 61 v L W0 w) (hm : OneWAt w vb y)
    (hx : a.eval x = .slice (some ⟨vb, 0, none⟩) 1 1) (hlen : L.length + 1 ≤ 1000000)
    (h : ∀ v' w', OwnW B 61 v' (L ++ [y]) W0 w' → w.grownBy w' v.ownBlock → wpList P ops Q rest (a.put o.dst v') w') : wpList P ops Q (o :: rest) a w := by
  refine wpList_append_own _ hgd s x t ho B 61 i z 2 24 ht hi hz hsize hby hzs (by decide) v L.length (wcells L) hs hb.1 ⟨vb, 0, none⟩ 1 1 (wcells [y]) hx rfl ?_ (wcells_one _) (by unfold maxLen; omega) (by omega) hb.2.2 ?_
  · intro j u hj
    rw [Addr.add_lit, Nat.zero_add]
    exact hm.cells j u hj
  · intro v' w' ho' hg _
    exact h v' w' (hb.grown (by rw [wcells_append, List.length_append]; exact ho') hg) hg
theorem run_copy_writes (w : World) (dT sT ty e : TypeId) (i : TypeInfo) (hu : P.underlying dT = some (.slice e)) (hi : P.info? e = some i) (hs : i.size = 2) (g o dLen dCap : Nat) (a : Addr) (sLen sCap : Nat) (cur : Array Value) (hr : RowAt w g e cur)
    (cs : List Value) (q : Nat) (hq : q = Nat.min sLen dLen) (hn : cs.length = q * 2) (hsrc : ∀ j v, cs[j]? = some v → w.cell? (a.add j) = some v) (hfit : o + cs.length ≤ cur.size) (h1 : ∀ v ∈ cs, v.oneCell' = true) :
    (Builtin.copy_ #[dT, sT] ty #[.slice (some ⟨g, o, none⟩) dLen dCap, .slice (some a) sLen sCap]).run P w = .ok (goInt q) (w.setRow g (over cur o cs)) := by
  subst hq
  have hl := run_loadCells_list (P := P) w a cs hsrc
  rw [hn] at hl
  have hst := run_storeCells_at P g o e cs 0 cur w hr (by simpa using hfit) h1
  simp only [Nat.add_zero] at hst
  simp [Builtin.copy_, run_underlying hu, Builtin.lenOf, Builtin.firstCells, sizeOf, typeInfo, hi, hs, hl, hst, over]
end

set_option maxRecDepth 100000 in
set_option maxHeartbeats 2000000 in
/-- at the end -/
theorem WInsert_end (B : Nat) (v : Value) (M : List Wr) (y : Wr) (vb : Nat) (W0 w : World) (h : OwnW B 61 v M W0 w) (hlen : M.length ≤ 24) (hv : OneWAt w vb y) :
    Calls Try.prog 35 #[v, .int .i64 (M.length : Int), .slice (some ⟨vb, 0, none⟩) 1 1] w fun e w' => ∃ v', e = .returned v' ∧ OwnW B 61 v' (M ++ [y]) W0 w' ∧ w.grownBy w' v.ownBlock := by
  obtain ⟨i0, hi, hz0, hz1, hz2⟩ := info_parts infoWrite
  have HO := Lib.hid h
  have HV := Lib.hid hv
  obtain ⟨p, cap, rfl, hcl, hmx⟩ : ∃ p cap, v = .slice p M.length cap ∧ M.length ≤ cap ∧ cap ≤ maxLen := by
    rcases h.1.2 with ⟨rfl, hn⟩ | ⟨g, cap, cur, rfl, _, _, hcap, hmx, _⟩
    · exact ⟨none, 0, by rw [hn], by omega, Nat.zero_le _⟩
    · exact ⟨_, cap, rfl, hcap, hmx⟩
  clear h hv
  go_enter Try.func35, Try.ntmps35
  go_wp2_with (at_builtin; refine wpList_own_wone rfl (.tmp 23) (.tmp 24) 37 rfl B i0 _ Try.underlying37 hi hz0 rfl hz1 hz2 _ M rfl W0 y vb HO.out HV.out rfl (by omega) ?_; intro v2 w2 hown2 hgr2)
  all_goals
    go_ret
    exact ⟨_, rfl, hown2, by first | exact hgr2 | (cases p <;> exact hgr2)⟩

set_option maxRecDepth 100000 in
set_option maxHeartbeats 4000000 in
/-- before the end, where there is room -/
theorem WInsert_shift (B g cap n : Nat) (M : List Wr) (k : Nat) (y : Wr) (vb : Nat) (W0 w : World) (hn : n = M.length) (h : OwnW B 61 (.slice (some ⟨g, 0, none⟩) n cap) M W0 w) (hk : k < n) (hlen : n ≤ 24) (hroom : n + 1 ≤ cap) (hv : OneWAt w vb y) (hne : vb ≠ g) :
    Calls Try.prog 35 #[.slice (some ⟨g, 0, none⟩) n cap, .int .i64 (k : Int), .slice (some ⟨vb, 0, none⟩) 1 1] w fun e w' => ∃ v', e = .returned v' ∧ OwnW B 61 v' (M.take k ++ [y] ++ M.drop k) W0 w' ∧ w.grownBy w' (some g) := by
  obtain ⟨i0, hi, hz0, hz1, hz2⟩ := info_parts infoWrite
  obtain ⟨cur, hrow, hnx, hB, hcap, hmx, hsz, htk⟩ := h.row
  clear hnx
  have hbel := h.below
  rw [← hn] at hcap htk
  obtain ⟨D, hD⟩ : ∃ D, D = wcells (M.drop k) := ⟨_, rfl⟩
  have hDl : D.length = (n - k) * 2 := by rw [hD, wcells_length, List.length_drop, hn]
  obtain ⟨Y, hY⟩ : ∃ Y, Y = wcells [y] := ⟨_, rfl⟩
  have hYl : Y.length = 2 := by rw [hY]; rfl
  have hDat : ∀ t u, D[t]? = some u → w.cell? ⟨g, k * 2 + t, none⟩ = some u := by
    intro t u hu
    have ht := (List.getElem?_eq_some_iff.1 hu).1
    rw [hD, wcells_drop M k (by omega), List.getElem?_drop] at hu
    have : (wcells M)[k * 2 + t]? = cur[k * 2 + t]? := by
      rw [← htk, List.getElem?_take_of_lt (by omega)]; simp
    rw [hrow.cell, ← this]
    exact hu
  have hfit1 : k * 2 + Y.length + D.length ≤ cur.size := by rw [hYl, hDl, hsz]; omega
  obtain ⟨W1, hW1⟩ : ∃ W1, W1 = w.drew.setRow g (over cur (k * 2 + Y.length) D) := ⟨_, rfl⟩
  have hrow1 : RowAt W1 g 61 (over cur (k * 2 + Y.length) D) := by rw [hW1]; exact hrow.drew.set
  have hfit2 : k * 2 + Y.length ≤ (over cur (k * 2 + Y.length) D).size := by rw [over_size hfit1]; omega
  have hv1 : OneWAt W1 vb y := by
    rw [hW1]
    show _ = _
    rw [setRow_other _ _ _ _ hne]
    exact hv
  obtain ⟨W2, hW2⟩ : ∃ W2, W2 = W1.setRow g (over (over cur (k * 2 + Y.length) D) (k * 2) Y) := ⟨_, rfl⟩
  have hrow2 : RowAt W2 g 61 (over (over cur (k * 2 + Y.length) D) (k * 2) Y) := by rw [hW2]; exact hrow1.set
  have hfin : OwnW B 61 (.slice (some ⟨g, 0, none⟩) (n + 1) cap) (M.take k ++ [y] ++ M.drop k) W0 W2 := by
    have hl2 : (M.take k ++ [y] ++ M.drop k).length = n + 1 := by simp [← hn]; omega
    have := OwnW.ofRow (L := M.take k ++ [y] ++ M.drop k) (W0 := W0) hrow2 hB (by rw [hl2]; omega) hmx (by rw [over_size hfit2, over_size hfit1, hsz])
      (by rw [hl2, show (n + 1) * 2 = k * 2 + Y.length + D.length by rw [hYl, hDl]; omega, over_shift hfit1, wcells_append, wcells_append, wcells_take M k (by omega), ← htk, List.take_take, Nat.min_eq_left (by omega), ← hY, ← hD])
      (by rw [hW2, hW1]; exact below_setRow (below_setRow (below_dr hbel 1) hB _) hB _)
    rw [hl2] at this
    exact this
  have hcp1 : ∀ ty dc sc, (Builtin.copy_ #[37, 37] ty #[.slice (some ⟨g, (k + 1) * 2, none⟩) (n - k) dc, .slice (some ⟨g, k * 2, none⟩) (n + 1 - k) sc]).run Try.prog w.drew = .ok (goInt ((n - k : Nat) : Int)) W1 := by
    intro ty dc sc
    rw [hW1, hYl, show k * 2 + 2 = (k + 1) * 2 by omega]
    exact run_copy_writes w.drew _ _ ty _ i0 Try.underlying37 hi hz1 g ((k + 1) * 2) (n - k) dc ⟨g, k * 2, none⟩ (n + 1 - k) sc cur hrow.drew D (n - k) (by simp only [Nat.min_def]; split <;> omega) hDl (fun j v hj => by rw [Addr.add_lit]; exact hDat j v hj) (by rw [hDl, hsz]; omega) (by rw [hD]; exact wcells_one _)
  have hcp2 : ∀ ty dc, (Builtin.copy_ #[37, 37] ty #[.slice (some ⟨g, k * 2, none⟩) (n + 1 - k) dc, .slice (some ⟨vb, 0, none⟩) 1 1]).run Try.prog W1 = .ok (goInt 1) W2 := by
    intro ty dc
    rw [hW2]
    exact run_copy_writes W1 _ _ ty _ i0 Try.underlying37 hi hz1 g (k * 2) (n + 1 - k) dc ⟨vb, 0, none⟩ 1 1 _ hrow1 Y 1 (by simp only [Nat.min_def]; split <;> omega) hYl (fun j v hj => by rw [Addr.add_lit, Nat.zero_add]; exact hv1.cells j v (hY ▸ hj)) hfit2 (by rw [hY]; exact wcells_one _)
  have hov : ∀ lb cb, (callFunc 54 #[.slice (some ⟨vb, 0, none⟩) 1 1, .slice (some ⟨g, (k + 1) * 2, none⟩) lb cb]).run Try.prog w = .ok (.value (.bool false)) w := fun lb cb => by
    rw [run_callFunc_extern Try.func54 (by kernel_rfl) (by kernel_rfl) (by kernel_rfl) (e := Extern.SlicesOverlaps.overlaps #[37, 37] #[4]) (by kernel_rfl),
      Lib.run_overlaps_apart w 37 4 61 Try.underlying37 2 (by intro w; kernel_rfl) ⟨vb, 0, none⟩ ⟨g, (k + 1) * 2, none⟩ 1 1 lb cb hne 61 61 2 cur.size
        (by have := hv; unfold OneWAt RowAt at this; simp [World.shape?, this]) (by have := hrow; unfold RowAt at this; simp [World.shape?, this]) (by omega)
        (by have := hv; unfold OneWAt RowAt at this; simp [World.frozen?, this]) (by have := hv; unfold OneWAt RowAt at this; simp [World.frozen?, this])]
    rfl
  have HF := Lib.hid hfin
  have HG : Hid (w.grownBy W2 (some g)) := (by rw [hW2, hW1]; exact grown_row (grown_row (grown_drew (grown_refl _ _)) (.inl rfl) _) (.inl rfl) _ : w.grownBy W2 (some g))
  have hz3 : ¬ ((k : Int) = (n : Int)) := by omega
  have hz3' : ((k : Int) == (n : Int)) = false := by simpa using hz3
  have hw1 := IntWalk.i64_in ((k : Int) + 1) (by omega)
  have hw2 := IntWalk.i64_in ((n : Int) + 1) (by omega)
  have hc63 : cap ≤ 9223372036854775807 := by unfold maxLen at hmx; omega
  have hb2 : ¬ (cap = k + 1) := by omega
  have hb4 : ¬ (cap = k) := by omega
  have hb5 : ¬ (cap = 0) := by omega
  have hb1 : (0 : Int) ≤ (k : Int) + 1 := by omega
  have hin : k ≤ n := by omega
  have hb3 : (k : Int) ≤ (n : Int) + 1 := by omega
  have hz6 : ¬ ((cap : Int) < (n : Int) + 1) := by omega
  clear hfin h hrow hrow1 hrow2 hW1 hW2 hY hYl hD hDl hDat hfit1 hfit2 hv hv1 htk hsz hbel hn
  go_enter Try.func35, Try.ntmps35
  go_wp2_with (simp only [hov])
  go_region_law (refine step_copy_eq rfl _ _ 37 37 rfl _ _ (by simp [Act.eval, Act.put]) (by simp [Act.eval, Act.put]) (hcp1 _ _ _) ?_)
  go_wp2_with (refine wpList_copy_eq _ rfl _ _ 37 37 rfl _ _ rfl rfl (hcp2 _ _) ?_)
  go_ret
  exact ⟨_, rfl, HF.out, HG.out⟩

set_option maxRecDepth 100000 in
set_option maxHeartbeats 4000000 in
/-- before the end, where there is no room -/
theorem WInsert_grow (B g cap n : Nat) (M : List Wr) (k : Nat) (y : Wr) (vb : Nat) (W0 w : World) (hn : n = M.length) (h : OwnW B 61 (.slice (some ⟨g, 0, none⟩) n cap) M W0 w) (hk : k < n) (hlen : n ≤ 24) (hroom : cap < n + 1) (hv : OneWAt w vb y) :
    Calls Try.prog 35 #[.slice (some ⟨g, 0, none⟩) n cap, .int .i64 (k : Int), .slice (some ⟨vb, 0, none⟩) 1 1] w fun e w' => ∃ v', e = .returned v' ∧ OwnW B 61 v' (M.take k ++ [y] ++ M.drop k) W0 w' ∧ w.grownBy w' (some g) := by
  obtain ⟨i0, hi, hz0, hz1, hz2⟩ := info_parts infoWrite
  obtain ⟨cur, hrow, hnx, hB, hcap, hmx, hsz, htk⟩ := h.row
  clear hnx
  have hbel := h.below
  have hBw : B ≤ w.heap.size := h.2.2
  rw [← hn] at hcap htk
  obtain ⟨D, hD⟩ : ∃ D, D = wcells (M.drop k) := ⟨_, rfl⟩
  have hDl : D.length = (n - k) * 2 := by rw [hD, wcells_length, List.length_drop, hn]
  obtain ⟨Y, hY⟩ : ∃ Y, Y = wcells [y] := ⟨_, rfl⟩
  have hYl : Y.length = 2 := by rw [hY]; rfl
  obtain ⟨X, hX⟩ : ∃ X, X = wcells (M.take k) := ⟨_, rfl⟩
  have hXl : X.length = k * 2 := by rw [hX, wcells_length, List.length_take]; omega
  have hcur : ∀ j, j < n * 2 → (wcells M)[j]? = cur[j]? := by
    intro j hj
    rw [← htk, List.getElem?_take_of_lt hj]; simp
  have hDat : ∀ t u, D[t]? = some u → w.cell? ⟨g, k * 2 + t, none⟩ = some u := by
    intro t u hu
    have ht := (List.getElem?_eq_some_iff.1 hu).1
    rw [hD, wcells_drop M k (by omega), List.getElem?_drop] at hu
    rw [hrow.cell, ← hcur _ (by omega)]
    exact hu
  have hXat : ∀ t u, X[t]? = some u → w.cell? ⟨g, t, none⟩ = some u := by
    intro t u hu
    have ht := (List.getElem?_eq_some_iff.1 hu).1
    rw [hX, wcells_take M k (by omega), List.getElem?_take_of_lt (by omega)] at hu
    rw [hrow.cell, ← hcur _ (by omega)]
    exact hu
  have hik : k + (n + 1 - k) = n + 1 := by omega
  have hkk : (n : Int) + 1 - (k : Int) = ((n + 1 - k : Nat) : Int) := by omega
  have hold : (Builtin.firstCells i0.size k (.slice (some ⟨g, 0, none⟩) k cap)).run Try.prog w.drew = .ok X.toArray w.drew := by
    rw [hz1]
    exact run_firstCells_some w.drew 2 k ⟨g, 0, none⟩ k cap X hXl (fun j v hj => by rw [Addr.add_lit, Nat.zero_add]; exact hXat j v hj)
  obtain ⟨G, hG⟩ : ∃ G, G = grownCap w (n + 1) cap 61 := ⟨_, rfl⟩
  have hGn : n + 1 ≤ G := by rw [hG]; exact grownCap_ge w _ _ _
  have hGm : G ≤ maxLen := by rw [hG]; exact grownCap_le_maxLen w (n + 1) cap _ (by unfold maxLen; omega)
  have hG63 : G ≤ 9223372036854775807 := by unfold maxLen at hGm; omega
  obtain ⟨ROW, hROW⟩ : ∃ ROW : Array Value, ROW = X.toArray ++ Builtin.zeroCells (Value.agg #[.int .i64 0, .string ⟨#[]⟩]).cells (n + 1 - k) ++ Builtin.zeroCells (Value.agg #[.int .i64 0, .string ⟨#[]⟩]).cells (G - (n + 1)) := ⟨_, rfl⟩
  obtain ⟨W1, hW1⟩ : ∃ W1, W1 = w.drew.alloc (.cells ROW 61) := ⟨_, rfl⟩
  obtain ⟨N, hN⟩ : ∃ N, N = w.heap.size := ⟨_, rfl⟩
  have hrz : ∀ ty, (Builtin.append_ #[37, 3] ty #[.slice (some ⟨g, 0, none⟩) k cap, .int .i64 ((n : Int) + 1 - (k : Int))]).run Try.prog w = .ok (.slice (some ⟨N, 0, none⟩) (n + 1) G) W1 := fun ty => by
    have h := Lib.run_append_grow_zeros w 37 3 ty 61 i0 _ .i64 .i64 Try.underlying37 Try.underlying3 hi hz0 (some ⟨g, 0, none⟩) k cap X hold (n + 1 - k) (by omega) (by omega) (by omega) (by omega) (by rw [hz2]; omega) (by rw [hz2, hik]; exact growslice_fits hroom (by omega))
    rw [hik, ← hG, ← hROW, ← hW1, ← hN] at h
    rw [hkk]
    exact h
  have hzc : ∀ m, (Builtin.zeroCells (Value.agg #[.int .i64 0, .string ⟨#[]⟩]).cells m).size = m * 2 := fun m => by rw [size_zeroCells]; rfl
  have hRsz : ROW.size = G * 2 := by rw [hROW]; simp only [Array.size_append, List.size_toArray, hXl, hzc]; omega
  have hRtk : ROW.toList.take (k * 2) = X := by
    rw [hROW, Array.toList_append, Array.toList_append, List.append_assoc, List.toList_toArray, ← hXl]
    exact List.take_left
  have hrow1 : RowAt W1 N 61 ROW := by rw [hW1, hN]; exact heap_alloc_new w.drew _
  have hv1 : OneWAt W1 vb y := by rw [hW1]; exact RowAt.alloc (w := w.drew) hv _
  have hvN : vb ≠ N := by have := RowAt.lt hv; omega
  have hgN : g ≠ N := by have := hrow.lt; omega
  have hrg1 : RowAt W1 g 61 cur := by rw [hW1]; exact RowAt.alloc (w := w.drew) hrow _
  have hb1 : Below B W0 W1 := by rw [hW1]; exact (below_dr hbel 1).alloc hBw _
  have hfit1 : k * 2 + Y.length + D.length ≤ ROW.size := by rw [hYl, hDl, hRsz]; omega
  have hfit2 : k * 2 + Y.length ≤ ROW.size := by omega
  obtain ⟨W2, hW2⟩ : ∃ W2, W2 = W1.setRow N (over ROW (k * 2) Y) := ⟨_, rfl⟩
  have hrow2 : RowAt W2 N 61 (over ROW (k * 2) Y) := by rw [hW2]; exact hrow1.set
  have hrg2 : RowAt W2 g 61 cur := by
    rw [hW2]
    show _ = _
    rw [setRow_other _ _ _ _ hgN]
    exact hrg1
  have hDat2 : ∀ t u, D[t]? = some u → W2.drew.cell? ⟨g, k * 2 + t, none⟩ = some u := by
    intro t u hu
    rw [RowAt.cell (hrg2.drew), ← hrow.cell]
    exact hDat t u hu
  have hfit3 : k * 2 + Y.length + D.length ≤ (over ROW (k * 2) Y).size := by rw [over_size hfit2]; exact hfit1
  obtain ⟨W3, hW3⟩ : ∃ W3, W3 = W2.drew.setRow N (over (over ROW (k * 2) Y) (k * 2 + Y.length) D) := ⟨_, rfl⟩
  have hrow3 : RowAt W3 N 61 (over (over ROW (k * 2) Y) (k * 2 + Y.length) D) := by rw [hW3]; exact hrow2.drew.set
  have hBN : B ≤ N := by omega
  have hfin : OwnW B 61 (.slice (some ⟨N, 0, none⟩) (n + 1) G) (M.take k ++ [y] ++ M.drop k) W0 W3 := by
    have hl2 : (M.take k ++ [y] ++ M.drop k).length = n + 1 := by simp [← hn]; omega
    have := OwnW.ofRow (L := M.take k ++ [y] ++ M.drop k) (W0 := W0) hrow3 hBN (by rw [hl2]; omega) hGm (by rw [over_size hfit3, over_size hfit2, hRsz])
      (by rw [hl2, show (n + 1) * 2 = k * 2 + Y.length + D.length by rw [hYl, hDl]; omega, over_two hfit1, hRtk, wcells_append, wcells_append, ← hX, ← hY, ← hD])
      (by rw [hW3, hW2]; exact below_setRow (below_dr (below_setRow hb1 hBN _) 1) hBN _)
    rw [hl2] at this
    exact this
  have hcp1 : ∀ ty dc, (Builtin.copy_ #[37, 37] ty #[.slice (some ⟨N, k * 2, none⟩) (n + 1 - k) dc, .slice (some ⟨vb, 0, none⟩) 1 1]).run Try.prog W1 = .ok (goInt 1) W2 := by
    intro ty dc
    rw [hW2]
    exact run_copy_writes W1 _ _ ty _ i0 Try.underlying37 hi hz1 N (k * 2) (n + 1 - k) dc ⟨vb, 0, none⟩ 1 1 _ hrow1 Y 1 (by simp only [Nat.min_def]; split <;> omega) hYl (fun j v hj => by rw [Addr.add_lit, Nat.zero_add]; exact hv1.cells j v (hY ▸ hj)) hfit2 (by rw [hY]; exact wcells_one _)
  have hcp2 : ∀ ty dc sc, (Builtin.copy_ #[37, 37] ty #[.slice (some ⟨N, (k + 1) * 2, none⟩) (n - k) dc, .slice (some ⟨g, k * 2, none⟩) (n - k) sc]).run Try.prog W2.drew = .ok (goInt ((n - k : Nat) : Int)) W3 := by
    intro ty dc sc
    rw [hW3, hYl, show k * 2 + 2 = (k + 1) * 2 by omega]
    exact run_copy_writes W2.drew _ _ ty _ i0 Try.underlying37 hi hz1 N ((k + 1) * 2) (n - k) dc ⟨g, k * 2, none⟩ (n - k) sc _ hrow2.drew D (n - k) (by simp only [Nat.min_def]; split <;> omega) hDl (fun j v hj => by rw [Addr.add_lit]; exact hDat2 j v hj) (by rw [show (k + 1) * 2 = k * 2 + Y.length by rw [hYl]; omega]; exact hfit3) (by rw [hD]; exact wcells_one _)
  have HF := Lib.hid hfin
  have HG : Hid (w.grownBy W3 (some g)) := (by rw [hW3, hW2, hW1]; exact grown_row (grown_drew (grown_row (grown_alloc (grown_drew (grown_refl _ _)) _) (.inr (by omega)) _)) (.inr (by omega)) _ : w.grownBy W3 (some g))
  have hz3 : ¬ ((k : Int) = (n : Int)) := by omega
  have hz3' : ((k : Int) == (n : Int)) = false := by simpa using hz3
  have hw1 := IntWalk.i64_in ((k : Int) + 1) (by omega)
  have hw2 := IntWalk.i64_in ((n : Int) + 1) (by omega)
  have hw3 := IntWalk.i64_in ((n : Int) + 1 - (k : Int)) (by omega)
  have hc63 : cap ≤ 9223372036854775807 := by unfold maxLen at hmx; omega
  have hb2 : ¬ (G = k + 1) := by omega
  have hb4 : ¬ (cap = k) := by omega
  have hb5 : ¬ (cap = 0) := by omega
  have hb7 : ¬ (G = k) := by omega
  have hb1' : (0 : Int) ≤ (k : Int) + 1 := by omega
  have hin : k ≤ n := by omega
  have hkc : k ≤ cap := by omega
  have hb3 : (k : Int) ≤ (n : Int) + 1 := by omega
  have hz6 : (cap : Int) < (n : Int) + 1 := by omega
  clear hfin h hrow hrow1 hrow2 hrow3 hrg1 hrg2 hW1 hW2 hW3 hY hYl hD hDl hDat hDat2 hXat hX hXl hfit1 hfit2 hfit3 hv hv1 htk hsz hbel hn hb1 hcur hold hROW hRsz hRtk hG hzc hkk hik hN hBN hBw hgN hvN hGm
  go_enter Try.func35, Try.ntmps35
  go_wp2_with (first
    | (at_builtin; refine Lib.wpList_append_run _ rfl _ _ _ _ rfl _ _ rfl rfl _ _ (hrz _) ?_)
    | (refine wpList_copy_eq _ rfl _ _ 37 37 rfl _ _ rfl rfl (hcp1 _ _) ?_))
  go_region_law (refine step_copy_eq rfl _ _ 37 37 rfl _ _ (by simp [Act.eval, Act.put]) (by simp [Act.eval, Act.put]) (hcp2 _ _ _) ?_)
  go_wp2
  go_ret
  exact ⟨_, rfl, HF.out, HG.out⟩

/-- anywhere -/
theorem WInsert_any (B : Nat) (v : Value) (M : List Wr) (k : Nat) (y : Wr) (vb : Nat) (W0 w : World) (h : OwnW B 61 v M W0 w) (hk : k ≤ M.length) (hlen : M.length ≤ 24) (hv : OneWAt w vb y) (hne : v.ownBlock ≠ some vb) :
    Calls Try.prog 35 #[v, .int .i64 (k : Int), .slice (some ⟨vb, 0, none⟩) 1 1] w fun e w' => ∃ v', e = .returned v' ∧ OwnW B 61 v' (M.take k ++ [y] ++ M.drop k) W0 w' ∧ w.grownBy w' v.ownBlock := by
  by_cases hkn : k = M.length
  · subst hkn
    rw [List.take_length, List.drop_length, List.append_nil]
    exact WInsert_end B v M y vb W0 w h hlen hv
  · obtain ⟨g, cap, rfl, _, _, _⟩ := h.shape (by omega)
    by_cases hroom : M.length + 1 ≤ cap
    · exact WInsert_shift B g cap M.length M k y vb W0 w rfl h (by omega) hlen hroom hv (fun e => hne (by rw [e]; rfl))
    · exact WInsert_grow B g cap M.length M k y vb W0 w rfl h (by omega) hlen (by omega) hv
end Go.Proofs.Ythjaanhkmfiajac
