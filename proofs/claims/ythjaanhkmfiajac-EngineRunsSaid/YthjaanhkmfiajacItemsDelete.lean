/- slices.Delete of one item out of a row that the call owns. Condition: as its statement lists. -/
import Derived.Test.YthjaanhkmfiajacPure
namespace Go.Proofs.Ythjaanhkmfiajac
open Go.RowKit

theorem Try.zeroItem (w : World) : (zeroValue 55).run Try.prog w = .ok (.agg #[.int .i64 0, .string ⟨#[]⟩, .int .i64 0]) w := by kernel_rfl

theorem Try.zeroCells1 : (Builtin.zeroCells (Value.agg #[.int .i64 0, .string ⟨#[]⟩, .int .i64 0]).cells 1).toList = [.int .i64 0, .string ⟨#[]⟩, .int .i64 0] := by
  have e : (Value.agg #[.int .i64 0, .string ⟨#[]⟩, .int .i64 0]).cells = #[.int .i64 0, .string ⟨#[]⟩, .int .i64 0] := by simp [Value.cells]
  rw [e]
  first | kernel_rfl | simp [Builtin.zeroCells, List.range_succ] | skip

set_option maxRecDepth 100000 in
set_option maxHeartbeats 2000000 in
theorem Delete_any (B g cap : Nat) (M : List It) (k j : Nat) (W0 w : World) (h : OwnI B 55 (.slice (some ⟨g, 0, none⟩) M.length cap) M W0 w) (hk : k < M.length) (hj : j = k + 1) (hlen : M.length ≤ 24) :
    Calls Try.prog 82 #[.slice (some ⟨g, 0, none⟩) M.length cap, .int .i64 (k : Int), .int .i64 (j : Int)] w fun e w' => ∃ v', e = .returned v' ∧ OwnI B 55 v' (M.take k ++ M.drop j) W0 w' := by
  obtain ⟨i0, hi, hz0, hz1, hz2⟩ := info_parts Try.infoItem
  obtain ⟨cur, hrow, _, hB, hcap, hmx, hsz, htk⟩ := h.row
  obtain ⟨n, hn⟩ : ∃ n, n = M.length := ⟨_, rfl⟩
  have hbel := h.below
  rw [← hn] at hk hlen hcap htk ⊢
  obtain ⟨news, hnews⟩ : ∃ news, news = icells (M.drop j) := ⟨_, rfl⟩
  have hnl : news.length = (n - j) * 3 := by rw [hnews, icells_length, List.length_drop, hn]
  have hcell : ∀ q, q < n * 3 → w.cell? ⟨g, q, none⟩ = (icells M)[q]? := by
    intro q hq
    rw [hrow.cell, ← htk, List.getElem?_take_of_lt hq]; simp
  have hsplit : icells M = icells (M.take j) ++ news := by rw [hnews, ← icells_append, List.take_append_drop]
  have htl : (icells (M.take j)).length = j * 3 := by rw [icells_length, List.length_take, ← hn]; omega
  have hat : ∀ t u, news[t]? = some u → w.drew.cell? ⟨g, j * 3 + t, none⟩ = some u := by
    intro t u hu
    have ht := (List.getElem?_eq_some_iff.1 hu).1
    show w.cell? _ = _
    rw [hcell _ (by omega), hsplit, List.getElem?_append_right (by omega), htl, Nat.add_sub_cancel_left]
    exact hu
  obtain ⟨A, hA, hsrc⟩ : ∃ A : Addr, (if cap = j then some (⟨g, 0, none⟩ : Addr) else some ⟨g, j * 3, none⟩) = some A ∧ Hid (∀ t u, news[t]? = some u → w.drew.cell? (A.add t) = some u) := by
    by_cases hc : cap = j
    · refine ⟨⟨g, 0, none⟩, by simp [hc], fun t u hu => ?_⟩
      have h0 : news.length = 0 := by rw [hnl]; omega
      rw [List.length_eq_zero_iff.1 h0] at hu
      simp at hu
    · refine ⟨⟨g, j * 3, none⟩, by simp [hc], fun t u hu => ?_⟩
      rw [Addr.add_lit]
      exact hat t u hu
  have s1 : Hid (news.length = (n - j) * 3) := hnl
  have s2 : Hid (∀ u ∈ news, u.oneCell' = true) := by rw [hnews]; exact icells_one _
  obtain ⟨W1, hW1⟩ : ∃ W1, W1 = w.drew.setRow g (over cur (k * 3) news) := ⟨_, rfl⟩
  have hfit1 : k * 3 + news.length ≤ cur.size := by rw [hnl, hsz]; omega
  have hrow1 : RowAt W1 g 55 (over cur (k * 3) news) := by rw [hW1]; exact hrow.drew.set
  have hb1 : Below B W0 W1 := by rw [hW1]; exact below_setRow (below_dr hbel 1) hB _
  have hsz1 : (over cur (k * 3) news).size = cap * 3 := by rw [over_size hfit1, hsz]
  have htk1 : (over cur (k * 3) news).toList.take ((k + (n - j)) * 3) = icells (M.take k ++ M.drop j) := by
    rw [show (k + (n - j)) * 3 = k * 3 + news.length by rw [hnl]; omega, over_take hfit1, icells_append, ← hnews]
    congr 1
    have : icells (M.take k) = (icells M).take (k * 3) := by
      have e : icells M = icells (M.take k) ++ icells (M.drop k) := by rw [← icells_append, List.take_append_drop]
      have el : (icells (M.take k)).length = k * 3 := by rw [icells_length, List.length_take, ← hn]; omega
      rw [e, ← el, List.take_left]
    rw [this, ← htk, List.take_take, Nat.min_eq_left (by omega)]
  obtain ⟨zs, hzs⟩ : ∃ zs : List Value, zs = [.int .i64 0, .string ⟨#[]⟩, .int .i64 0] := ⟨_, rfl⟩
  have hzl : zs.length = 3 := by rw [hzs]; rfl
  have hfit2 : (k + (n - j)) * 3 + zs.length ≤ (over cur (k * 3) news).size := by rw [hzl, hsz1]; omega
  obtain ⟨W2, hW2⟩ : ∃ W2, W2 = W1.setRow g (over (over cur (k * 3) news) ((k + (n - j)) * 3) zs) := ⟨_, rfl⟩
  have hcl : ∀ ty, (Builtin.clear_ #[24] ty #[.slice (some ⟨g, (k + (n - j)) * 3, none⟩) (n - (k + (n - j))) (cap - (k + (n - j)))]).run Try.prog W1 = .ok (.tuple #[]) W2 := by
    intro ty
    rw [show n - (k + (n - j)) = 1 by omega, hW2]
    exact run_clear_item W1 _ _ ty Try.underlying24 _ Try.zeroItem zs (by rw [hzs]; exact Try.zeroCells1) (by rw [hzs]; simp [Value.oneCell']) g _ _ _ hrow1 hfit2
  have hfin : OwnI B 55 (.slice (some ⟨g, 0, none⟩) (k + (n - j)) cap) (M.take k ++ M.drop j) W0 W2 := by
    have hl2 : (M.take k ++ M.drop j).length = k + (n - j) := by simp [← hn]; omega
    have hr2 : RowAt W2 g 55 (over (over cur (k * 3) news) ((k + (n - j)) * 3) zs) := by rw [hW2]; exact hrow1.set
    have := OwnI.ofRow (L := M.take k ++ M.drop j) (W0 := W0) hr2 hB (by rw [hl2]; omega) hmx (by rw [over_size hfit2, hsz1]) (by rw [hl2, over_before hfit2 (Nat.le_refl _), htk1]) (by rw [hW2]; exact below_setRow hb1 hB _)
    rw [hl2] at this
    exact this
  have HF := Lib.hid hfin
  have HW : Hid (W1 = w.drew.setRow g (over cur (k * 3) news)) := hW1
  have HR := Lib.hid hrow
  have hic : k ≤ cap := by omega
  have hjc : j ≤ cap := by omega
  have hjn : j ≤ n := by omega
  have hkj : k ≤ j := by omega
  have hkj' : ¬ k = j := by omega
  have hne : ¬ cap = k + (n - j) := by omega
  have S3 : Hid (k * 3 + news.length ≤ cur.size) := hfit1
  clear hj hfin hW1 hrow h hb1 hrow1 hsz1 htk1 hfit2 hcell hsplit htl hat hnl hnews hfit1 hW2 hzs hzl htk hsz hbel hn
  go_enter Try.func82, Try.ntmps82
  go_wp2
  go_region_law (refine step_append_row rfl (.tmp 22) (.tmp 25) 24 rfl 55 i0 Try.underlying24 hi hz1 g k cap cur HR.out.drew (by simp [Act.eval, Act.put]) A (n - j) (cap - j) news (by simp [Act.eval, Act.put]) s1.out hsrc.out s2.out (by omega) S3.out ?_; rw [← HW.out])
  go_wp2
  go_ret
  exact ⟨_, rfl, HF.out⟩
end Go.Proofs.Ythjaanhkmfiajac
