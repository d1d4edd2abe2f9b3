/- slices.Insert of one item into a row that the call owns. Condition: as its statement lists. -/
import Derived.Test.YthjaanhkmfiajacPure
import Derived.Test.YthjaanhkmfiajacItemsDelete
import Derived.Lib.AppendZerosOnto
import Derived.Lib.Overlaps
import Derived.Laws.Externs
namespace Go.Proofs.Ythjaanhkmfiajac
open Go.RowKit

theorem icells_take (M : List It) (k : Nat) (hk : k ≤ M.length) : icells (M.take k) = (icells M).take (k * 3) := by
  have e : icells M = icells (M.take k) ++ icells (M.drop k) := by rw [← icells_append, List.take_append_drop]
  have el : (icells (M.take k)).length = k * 3 := by rw [icells_length, List.length_take]; omega
  rw [e, ← el, List.take_left]
theorem icells_drop (M : List It) (k : Nat) (hk : k ≤ M.length) : icells (M.drop k) = (icells M).drop (k * 3) := by
  have e : icells M = icells (M.take k) ++ icells (M.drop k) := by rw [← icells_append, List.take_append_drop]
  have el : (icells (M.take k)).length = k * 3 := by rw [icells_length, List.length_take]; omega
  rw [e, ← el, List.drop_left]

/-- block vb holds the one item y -/
def OneAt (w : World) (vb : Nat) (y : It) : Prop := RowAt w vb 55 #[.int .i64 y.id, .string y.data, .int .i64 y.refs]
theorem OneAt.items {w : World} {vb : Nat} {y : It} (h : OneAt w vb y) : ItemsAt w (.slice (some ⟨vb, 0, none⟩) 1 1) [y] := by
  refine ⟨_, 1, rfl, by simp, (fun h => by cases h), fun i x hx => ⟨vb, 0, rfl, h.lt, ?_⟩⟩
  match i, hx with
  | 0, hx =>
    simp at hx; subst hx
    exact ⟨by rw [h.cell]; rfl, by rw [h.cell]; rfl, by rw [h.cell]; rfl⟩
  | i + 1, hx => simp at hx
theorem OneAt.cells {w : World} {vb : Nat} {y : It} (h : OneAt w vb y) : ∀ j u, (icells [y])[j]? = some u → w.cell? ⟨vb, j, none⟩ = some u := by
  intro j u hu
  rw [h.cell]
  match j, hu with
  | 0, hu => simpa [icells] using hu
  | 1, hu => simpa [icells] using hu
  | 2, hu => simpa [icells] using hu
  | j + 3, hu => simp [icells] at hu

set_option maxRecDepth 100000 in
set_option maxHeartbeats 2000000 in
/-- at the end -/
theorem Insert_end (B : Nat) (v : Value) (M : List It) (y : It) (vb : Nat) (W0 w : World) (h : OwnI B 55 v M W0 w) (hlen : M.length ≤ 24) (hv : OneAt w vb y) :
    Calls Try.prog 88 #[v, .int .i64 (M.length : Int), .slice (some ⟨vb, 0, none⟩) 1 1] w fun e w' => ∃ v', e = .returned v' ∧ OwnI B 55 v' (M ++ [y]) W0 w' := by
  obtain ⟨i0, hi, hz0, hz1, hz2⟩ := info_parts Try.infoItem
  have HO := Lib.hid h
  have HV := Lib.hid hv.items
  obtain ⟨p, cap, rfl, hcl, hmx⟩ : ∃ p cap, v = .slice p M.length cap ∧ M.length ≤ cap ∧ cap ≤ maxLen := by
    rcases h.1.2 with ⟨rfl, hn⟩ | ⟨g, cap, cur, rfl, _, _, hcap, hmx, _⟩
    · exact ⟨none, 0, by rw [hn], by omega, Nat.zero_le _⟩
    · exact ⟨_, cap, rfl, hcap, hmx⟩
  clear h hv
  go_enter Try.func88, Try.ntmps88
  go_wp2_with (at_builtin; refine wpList_own_items rfl (.tmp 23) (.tmp 24) 24 rfl B 55 i0 _ Try.underlying24 hi hz0 rfl hz1 hz2 _ M rfl W0 [y] _ HO.out HV.out rfl (by simp; omega) ?_; intro v2 w2 hown2)
  all_goals
    go_ret
    exact ⟨_, rfl, hown2⟩

set_option maxRecDepth 100000 in
set_option maxHeartbeats 4000000 in
/-- before the end, where there is room -/
theorem Insert_shift (B g cap n : Nat) (M : List It) (k : Nat) (y : It) (vb : Nat) (W0 w : World) (hn : n = M.length) (h : OwnI B 55 (.slice (some ⟨g, 0, none⟩) n cap) M W0 w) (hk : k < n) (hlen : n ≤ 24) (hroom : n + 1 ≤ cap) (hv : OneAt w vb y) (hne : vb ≠ g) :
    Calls Try.prog 88 #[.slice (some ⟨g, 0, none⟩) n cap, .int .i64 (k : Int), .slice (some ⟨vb, 0, none⟩) 1 1] w fun e w' => ∃ v', e = .returned v' ∧ OwnI B 55 v' (M.take k ++ [y] ++ M.drop k) W0 w' := by
  obtain ⟨i0, hi, hz0, hz1, hz2⟩ := info_parts Try.infoItem
  obtain ⟨cur, hrow, hnx, hB, hcap, hmx, hsz, htk⟩ := h.row
  clear hnx
  have hbel := h.below
  rw [← hn] at hcap htk
  obtain ⟨D, hD⟩ : ∃ D, D = icells (M.drop k) := ⟨_, rfl⟩
  have hDl : D.length = (n - k) * 3 := by rw [hD, icells_length, List.length_drop, hn]
  obtain ⟨Y, hY⟩ : ∃ Y, Y = icells [y] := ⟨_, rfl⟩
  have hYl : Y.length = 3 := by rw [hY]; rfl
  have hDat : ∀ t u, D[t]? = some u → w.cell? ⟨g, k * 3 + t, none⟩ = some u := by
    intro t u hu
    have ht := (List.getElem?_eq_some_iff.1 hu).1
    rw [hD, icells_drop M k (by omega), List.getElem?_drop] at hu
    have : (icells M)[k * 3 + t]? = cur[k * 3 + t]? := by
      rw [← htk, List.getElem?_take_of_lt (by omega)]; simp
    rw [hrow.cell, ← this]
    exact hu
  have hfit1 : k * 3 + Y.length + D.length ≤ cur.size := by rw [hYl, hDl, hsz]; omega
  obtain ⟨W1, hW1⟩ : ∃ W1, W1 = w.drew.setRow g (over cur (k * 3 + Y.length) D) := ⟨_, rfl⟩
  have hrow1 : RowAt W1 g 55 (over cur (k * 3 + Y.length) D) := by rw [hW1]; exact hrow.drew.set
  have hfit2 : k * 3 + Y.length ≤ (over cur (k * 3 + Y.length) D).size := by rw [over_size hfit1]; omega
  have hv1 : OneAt W1 vb y := by
    rw [hW1]
    show _ = _
    rw [setRow_other _ _ _ _ hne]
    exact hv
  obtain ⟨W2, hW2⟩ : ∃ W2, W2 = W1.setRow g (over (over cur (k * 3 + Y.length) D) (k * 3) Y) := ⟨_, rfl⟩
  have hrow2 : RowAt W2 g 55 (over (over cur (k * 3 + Y.length) D) (k * 3) Y) := by rw [hW2]; exact hrow1.set
  have hfin : OwnI B 55 (.slice (some ⟨g, 0, none⟩) (n + 1) cap) (M.take k ++ [y] ++ M.drop k) W0 W2 := by
    have hl2 : (M.take k ++ [y] ++ M.drop k).length = n + 1 := by simp [← hn]; omega
    have := OwnI.ofRow (L := M.take k ++ [y] ++ M.drop k) (W0 := W0) hrow2 hB (by rw [hl2]; omega) hmx (by rw [over_size hfit2, over_size hfit1, hsz])
      (by rw [hl2, show (n + 1) * 3 = k * 3 + Y.length + D.length by rw [hYl, hDl]; omega, over_shift hfit1, icells_append, icells_append, icells_take M k (by omega), ← htk, List.take_take, Nat.min_eq_left (by omega), ← hY, ← hD])
      (by rw [hW2, hW1]; exact below_setRow (below_setRow (below_dr hbel 1) hB _) hB _)
    rw [hl2] at this
    exact this
  have hcp1 : ∀ ty dc sc, (Builtin.copy_ #[24, 24] ty #[.slice (some ⟨g, (k + 1) * 3, none⟩) (n - k) dc, .slice (some ⟨g, k * 3, none⟩) (n + 1 - k) sc]).run Try.prog w.drew = .ok (goInt ((n - k : Nat) : Int)) W1 := by
    intro ty dc sc
    rw [hW1, hYl, show k * 3 + 3 = (k + 1) * 3 by omega]
    exact run_copy_items w.drew _ _ ty _ i0 Try.underlying24 hi hz1 g ((k + 1) * 3) (n - k) dc ⟨g, k * 3, none⟩ (n + 1 - k) sc cur hrow.drew D (n - k) (by simp only [Nat.min_def]; split <;> omega) hDl (fun j v hj => by rw [Addr.add_lit]; exact hDat j v hj) (by rw [hDl, hsz]; omega) (by rw [hD]; exact icells_one _)
  have hcp2 : ∀ ty dc, (Builtin.copy_ #[24, 24] ty #[.slice (some ⟨g, k * 3, none⟩) (n + 1 - k) dc, .slice (some ⟨vb, 0, none⟩) 1 1]).run Try.prog W1 = .ok (goInt 1) W2 := by
    intro ty dc
    rw [hW2]
    exact run_copy_items W1 _ _ ty _ i0 Try.underlying24 hi hz1 g (k * 3) (n + 1 - k) dc ⟨vb, 0, none⟩ 1 1 _ hrow1 Y 1 (by simp only [Nat.min_def]; split <;> omega) hYl (fun j v hj => by rw [Addr.add_lit, Nat.zero_add]; exact hv1.cells j v (hY ▸ hj)) hfit2 (by rw [hY]; exact icells_one _)
  have hov : ∀ lb cb, (callFunc 92 #[.slice (some ⟨vb, 0, none⟩) 1 1, .slice (some ⟨g, (k + 1) * 3, none⟩) lb cb]).run Try.prog w = .ok (.value (.bool false)) w := fun lb cb => by
    rw [run_callFunc_extern Try.func92 (by kernel_rfl) (by kernel_rfl) (by kernel_rfl) (e := Extern.SlicesOverlaps.overlaps #[24, 24] #[4]) (by kernel_rfl),
      Lib.run_overlaps_apart w 24 4 55 Try.underlying24 3 (by intro w; kernel_rfl) ⟨vb, 0, none⟩ ⟨g, (k + 1) * 3, none⟩ 1 1 lb cb hne 55 55 3 cur.size
        (by have := hv; unfold OneAt RowAt at this; simp [World.shape?, this]) (by have := hrow; unfold RowAt at this; simp [World.shape?, this]) (by omega)
        (by have := hv; unfold OneAt RowAt at this; simp [World.frozen?, this]) (by have := hv; unfold OneAt RowAt at this; simp [World.frozen?, this])]
    rfl
  have HF := Lib.hid hfin
  have hz3 : ¬ ((k : Int) = (n : Int)) := by omega
  have hz3' : ((k : Int) == (n : Int)) = false := by simpa using hz3
  have hw1 := IntWalk.i64_in ((k : Int) + 1) (by omega)
  have hw2 := IntWalk.i64_in ((n : Int) + 1) (by omega)
  have hc63 : cap ≤ 9223372036854775807 := by unfold maxLen at hmx; omega
  have hb2 : ¬ (cap = k + 1) := by omega
  have hb4 : ¬ (cap = k) := by omega
  have hb5 : ¬ (cap = 0) := by omega
  have hb1 : (0 : Int) ≤ (k : Int) + 1 := by omega
  have hin : k ≤ n := by omega
  have hb3 : (k : Int) ≤ (n : Int) + 1 := by omega
  have hz6 : ¬ ((cap : Int) < (n : Int) + 1) := by omega
  clear hfin h hrow hrow1 hrow2 hW1 hW2 hY hYl hD hDl hDat hfit1 hfit2 hv hv1 htk hsz hbel hn
  go_enter Try.func88, Try.ntmps88
  go_wp2_with (simp only [hov])
  go_region_law (refine step_copy_eq rfl _ _ 24 24 rfl _ _ (by simp [Act.eval, Act.put]) (by simp [Act.eval, Act.put]) (hcp1 _ _ _) ?_)
  go_wp2_with (refine wpList_copy_eq _ rfl _ _ 24 24 rfl _ _ rfl rfl (hcp2 _ _) ?_)
  go_ret
  exact ⟨_, rfl, HF.out⟩

set_option maxRecDepth 100000 in
set_option maxHeartbeats 4000000 in
/-- before the end, where there is no room -/
theorem Insert_grow (B g cap n : Nat) (M : List It) (k : Nat) (y : It) (vb : Nat) (W0 w : World) (hn : n = M.length) (h : OwnI B 55 (.slice (some ⟨g, 0, none⟩) n cap) M W0 w) (hk : k < n) (hlen : n ≤ 24) (hroom : cap < n + 1) (hv : OneAt w vb y) :
    Calls Try.prog 88 #[.slice (some ⟨g, 0, none⟩) n cap, .int .i64 (k : Int), .slice (some ⟨vb, 0, none⟩) 1 1] w fun e w' => ∃ v', e = .returned v' ∧ OwnI B 55 v' (M.take k ++ [y] ++ M.drop k) W0 w' := by
  obtain ⟨i0, hi, hz0, hz1, hz2⟩ := info_parts Try.infoItem
  obtain ⟨cur, hrow, hnx, hB, hcap, hmx, hsz, htk⟩ := h.row
  clear hnx
  have hbel := h.below
  have hBw : B ≤ w.heap.size := h.2.2
  rw [← hn] at hcap htk
  obtain ⟨D, hD⟩ : ∃ D, D = icells (M.drop k) := ⟨_, rfl⟩
  have hDl : D.length = (n - k) * 3 := by rw [hD, icells_length, List.length_drop, hn]
  obtain ⟨Y, hY⟩ : ∃ Y, Y = icells [y] := ⟨_, rfl⟩
  have hYl : Y.length = 3 := by rw [hY]; rfl
  obtain ⟨X, hX⟩ : ∃ X, X = icells (M.take k) := ⟨_, rfl⟩
  have hXl : X.length = k * 3 := by rw [hX, icells_length, List.length_take]; omega
  have hcur : ∀ j, j < n * 3 → (icells M)[j]? = cur[j]? := by
    intro j hj
    rw [← htk, List.getElem?_take_of_lt hj]; simp
  have hDat : ∀ t u, D[t]? = some u → w.cell? ⟨g, k * 3 + t, none⟩ = some u := by
    intro t u hu
    have ht := (List.getElem?_eq_some_iff.1 hu).1
    rw [hD, icells_drop M k (by omega), List.getElem?_drop] at hu
    rw [hrow.cell, ← hcur _ (by omega)]
    exact hu
  have hXat : ∀ t u, X[t]? = some u → w.cell? ⟨g, t, none⟩ = some u := by
    intro t u hu
    have ht := (List.getElem?_eq_some_iff.1 hu).1
    rw [hX, icells_take M k (by omega), List.getElem?_take_of_lt (by omega)] at hu
    rw [hrow.cell, ← hcur _ (by omega)]
    exact hu
  have hik : k + (n + 1 - k) = n + 1 := by omega
  have hkk : (n : Int) + 1 - (k : Int) = ((n + 1 - k : Nat) : Int) := by omega
  have hold : (Builtin.firstCells i0.size k (.slice (some ⟨g, 0, none⟩) k cap)).run Try.prog w.drew = .ok X.toArray w.drew := by
    rw [hz1]
    exact run_firstCells_some w.drew 3 k ⟨g, 0, none⟩ k cap X hXl (fun j v hj => by rw [Addr.add_lit, Nat.zero_add]; exact hXat j v hj)
  obtain ⟨G, hG⟩ : ∃ G, G = grownCap w (n + 1) cap 55 := ⟨_, rfl⟩
  have hGn : n + 1 ≤ G := by rw [hG]; exact grownCap_ge w _ _ _
  have hGm : G ≤ maxLen := by rw [hG]; exact grownCap_le_maxLen w (n + 1) cap _ (by unfold maxLen; omega)
  have hG63 : G ≤ 9223372036854775807 := by unfold maxLen at hGm; omega
  obtain ⟨ROW, hROW⟩ : ∃ ROW : Array Value, ROW = X.toArray ++ Builtin.zeroCells (Value.agg #[.int .i64 0, .string ⟨#[]⟩, .int .i64 0]).cells (n + 1 - k) ++ Builtin.zeroCells (Value.agg #[.int .i64 0, .string ⟨#[]⟩, .int .i64 0]).cells (G - (n + 1)) := ⟨_, rfl⟩
  obtain ⟨W1, hW1⟩ : ∃ W1, W1 = w.drew.alloc (.cells ROW 55) := ⟨_, rfl⟩
  obtain ⟨N, hN⟩ : ∃ N, N = w.heap.size := ⟨_, rfl⟩
  have hrz : ∀ ty, (Builtin.append_ #[24, 3] ty #[.slice (some ⟨g, 0, none⟩) k cap, .int .i64 ((n : Int) + 1 - (k : Int))]).run Try.prog w = .ok (.slice (some ⟨N, 0, none⟩) (n + 1) G) W1 := fun ty => by
    have h := Lib.run_append_grow_zeros w 24 3 ty 55 i0 _ .i64 .i64 Try.underlying24 Try.underlying3 hi hz0 (some ⟨g, 0, none⟩) k cap X hold (n + 1 - k) (by omega) (by omega) (by omega) (by omega) (by rw [hz2]; omega) (by rw [hz2, hik]; exact growslice_fits hroom (by omega))
    rw [hik, ← hG, ← hROW, ← hW1, ← hN] at h
    rw [hkk]
    exact h
  have hzc : ∀ m, (Builtin.zeroCells (Value.agg #[.int .i64 0, .string ⟨#[]⟩, .int .i64 0]).cells m).size = m * 3 := fun m => by rw [size_zeroCells]; rfl
  have hRsz : ROW.size = G * 3 := by rw [hROW]; simp only [Array.size_append, List.size_toArray, hXl, hzc]; omega
  have hRtk : ROW.toList.take (k * 3) = X := by
    rw [hROW, Array.toList_append, Array.toList_append, List.append_assoc, List.toList_toArray, ← hXl]
    exact List.take_left
  have hrow1 : RowAt W1 N 55 ROW := by rw [hW1, hN]; exact heap_alloc_new w.drew _
  have hv1 : OneAt W1 vb y := by rw [hW1]; exact RowAt.alloc (w := w.drew) hv _
  have hvN : vb ≠ N := by have := RowAt.lt hv; omega
  have hgN : g ≠ N := by have := hrow.lt; omega
  have hrg1 : RowAt W1 g 55 cur := by rw [hW1]; exact RowAt.alloc (w := w.drew) hrow _
  have hb1 : Below B W0 W1 := by rw [hW1]; exact (below_dr hbel 1).alloc hBw _
  have hfit1 : k * 3 + Y.length + D.length ≤ ROW.size := by rw [hYl, hDl, hRsz]; omega
  have hfit2 : k * 3 + Y.length ≤ ROW.size := by omega
  obtain ⟨W2, hW2⟩ : ∃ W2, W2 = W1.setRow N (over ROW (k * 3) Y) := ⟨_, rfl⟩
  have hrow2 : RowAt W2 N 55 (over ROW (k * 3) Y) := by rw [hW2]; exact hrow1.set
  have hrg2 : RowAt W2 g 55 cur := by
    rw [hW2]
    show _ = _
    rw [setRow_other _ _ _ _ hgN]
    exact hrg1
  have hDat2 : ∀ t u, D[t]? = some u → W2.drew.cell? ⟨g, k * 3 + t, none⟩ = some u := by
    intro t u hu
    rw [RowAt.cell (hrg2.drew), ← hrow.cell]
    exact hDat t u hu
  have hfit3 : k * 3 + Y.length + D.length ≤ (over ROW (k * 3) Y).size := by rw [over_size hfit2]; exact hfit1
  obtain ⟨W3, hW3⟩ : ∃ W3, W3 = W2.drew.setRow N (over (over ROW (k * 3) Y) (k * 3 + Y.length) D) := ⟨_, rfl⟩
  have hrow3 : RowAt W3 N 55 (over (over ROW (k * 3) Y) (k * 3 + Y.length) D) := by rw [hW3]; exact hrow2.drew.set
  have hBN : B ≤ N := by omega
  have hfin : OwnI B 55 (.slice (some ⟨N, 0, none⟩) (n + 1) G) (M.take k ++ [y] ++ M.drop k) W0 W3 := by
    have hl2 : (M.take k ++ [y] ++ M.drop k).length = n + 1 := by simp [← hn]; omega
    have := OwnI.ofRow (L := M.take k ++ [y] ++ M.drop k) (W0 := W0) hrow3 hBN (by rw [hl2]; omega) hGm (by rw [over_size hfit3, over_size hfit2, hRsz])
      (by rw [hl2, show (n + 1) * 3 = k * 3 + Y.length + D.length by rw [hYl, hDl]; omega, over_two hfit1, hRtk, icells_append, icells_append, ← hX, ← hY, ← hD])
      (by rw [hW3, hW2]; exact below_setRow (below_dr (below_setRow hb1 hBN _) 1) hBN _)
    rw [hl2] at this
    exact this
  have hcp1 : ∀ ty dc, (Builtin.copy_ #[24, 24] ty #[.slice (some ⟨N, k * 3, none⟩) (n + 1 - k) dc, .slice (some ⟨vb, 0, none⟩) 1 1]).run Try.prog W1 = .ok (goInt 1) W2 := by
    intro ty dc
    rw [hW2]
    exact run_copy_items W1 _ _ ty _ i0 Try.underlying24 hi hz1 N (k * 3) (n + 1 - k) dc ⟨vb, 0, none⟩ 1 1 _ hrow1 Y 1 (by simp only [Nat.min_def]; split <;> omega) hYl (fun j v hj => by rw [Addr.add_lit, Nat.zero_add]; exact hv1.cells j v (hY ▸ hj)) hfit2 (by rw [hY]; exact icells_one _)
  have hcp2 : ∀ ty dc sc, (Builtin.copy_ #[24, 24] ty #[.slice (some ⟨N, (k + 1) * 3, none⟩) (n - k) dc, .slice (some ⟨g, k * 3, none⟩) (n - k) sc]).run Try.prog W2.drew = .ok (goInt ((n - k : Nat) : Int)) W3 := by
    intro ty dc sc
    rw [hW3, hYl, show k * 3 + 3 = (k + 1) * 3 by omega]
    exact run_copy_items W2.drew _ _ ty _ i0 Try.underlying24 hi hz1 N ((k + 1) * 3) (n - k) dc ⟨g, k * 3, none⟩ (n - k) sc _ hrow2.drew D (n - k) (by simp only [Nat.min_def]; split <;> omega) hDl (fun j v hj => by rw [Addr.add_lit]; exact hDat2 j v hj) (by rw [show (k + 1) * 3 = k * 3 + Y.length by rw [hYl]; omega]; exact hfit3) (by rw [hD]; exact icells_one _)
  have HF := Lib.hid hfin
  have hz3 : ¬ ((k : Int) = (n : Int)) := by omega
  have hz3' : ((k : Int) == (n : Int)) = false := by simpa using hz3
  have hw1 := IntWalk.i64_in ((k : Int) + 1) (by omega)
  have hw2 := IntWalk.i64_in ((n : Int) + 1) (by omega)
  have hw3 := IntWalk.i64_in ((n : Int) + 1 - (k : Int)) (by omega)
  have hc63 : cap ≤ 9223372036854775807 := by unfold maxLen at hmx; omega
  have hb2 : ¬ (G = k + 1) := by omega
  have hb4 : ¬ (cap = k) := by omega
  have hb5 : ¬ (cap = 0) := by omega
  have hb7 : ¬ (G = k) := by omega
  have hb1' : (0 : Int) ≤ (k : Int) + 1 := by omega
  have hin : k ≤ n := by omega
  have hkc : k ≤ cap := by omega
  have hb3 : (k : Int) ≤ (n : Int) + 1 := by omega
  have hz6 : (cap : Int) < (n : Int) + 1 := by omega
  clear hfin h hrow hrow1 hrow2 hrow3 hrg1 hrg2 hW1 hW2 hW3 hY hYl hD hDl hDat hDat2 hXat hX hXl hfit1 hfit2 hfit3 hv hv1 htk hsz hbel hn hb1 hcur hold hROW hRsz hRtk hG hzc hkk hik hN hBN hBw hgN hvN hGm
  go_enter Try.func88, Try.ntmps88
  go_wp2_with (first
    | (at_builtin; refine Lib.wpList_append_run _ rfl _ _ _ _ rfl _ _ rfl rfl _ _ (hrz _) ?_)
    | (refine wpList_copy_eq _ rfl _ _ 24 24 rfl _ _ rfl rfl (hcp1 _ _) ?_))
  go_region_law (refine step_copy_eq rfl _ _ 24 24 rfl _ _ (by simp [Act.eval, Act.put]) (by simp [Act.eval, Act.put]) (hcp2 _ _ _) ?_)
  go_wp2
  go_ret
  exact ⟨_, rfl, HF.out⟩

/-- anywhere -/
theorem Insert_any (B : Nat) (v : Value) (M : List It) (k : Nat) (y : It) (vb : Nat) (W0 w : World) (h : OwnI B 55 v M W0 w) (hk : k ≤ M.length) (hlen : M.length ≤ 24) (hv : OneAt w vb y) (hne : v.ownBlock ≠ some vb) :
    Calls Try.prog 88 #[v, .int .i64 (k : Int), .slice (some ⟨vb, 0, none⟩) 1 1] w fun e w' => ∃ v', e = .returned v' ∧ OwnI B 55 v' (M.take k ++ [y] ++ M.drop k) W0 w' := by
  by_cases hkn : k = M.length
  · subst hkn
    rw [List.take_length, List.drop_length, List.append_nil]
    exact Insert_end B v M y vb W0 w h hlen hv
  · obtain ⟨g, cap, rfl, _, _, _⟩ := h.shape (by omega)
    by_cases hroom : M.length + 1 ≤ cap
    · exact Insert_shift B g cap M.length M k y vb W0 w rfl h (by omega) hlen hroom hv (fun e => hne (by rw [e]; rfl))
    · exact Insert_grow B g cap M.length M k y vb W0 w rfl h (by omega) hlen (by omega) hv
end Go.Proofs.Ythjaanhkmfiajac
