/- slices.Repeat at one integer and volume.New: what they return. Condition of the first: one to 32 times. -/
import Derived.Test.YthjaanhkmfiajacPure
import Derived.Test.YthjaanhkmfiajacShelf
import Derived.Laws.MakeOwn
import Derived.Deep.QuietTactic
import Derived.BigQuiet
namespace Go.Proofs.Ythjaanhkmfiajac
open Go.RowKit

/-- n cells, the first k of which hold z, the others 0 -/
def rowZ (z : Int) (k n : Nat) : Array Value := (List.replicate k (Value.int .i64 z) ++ List.replicate (n - k) (Value.int .i64 0)).toArray
theorem rowZ_size {z : Int} {k n : Nat} (h : k ≤ n) : (rowZ z k n).size = n := by simp [rowZ]; omega
theorem rowZ_over {z : Int} {k m n : Nat} : over (rowZ z k n) k (List.replicate m (Value.int .i64 z)) = rowZ z (k + m) n := by
  unfold over rowZ
  congr 1
  simp only [List.length_replicate]
  rw [List.take_left' (by simp), List.drop_append, List.drop_of_length_le (by simp), List.nil_append, List.replicate_append_replicate]
  congr 1
  simp
  omega
theorem rowZ_cell {z : Int} {k n j : Nat} (h : j < k) : (rowZ z k n)[j]? = some (.int .i64 z) := by
  unfold rowZ
  rw [List.getElem?_toArray, List.getElem?_append_left (by simpa using h), List.getElem?_replicate, if_pos h]
theorem rowZ_made (n : Nat) (z : Int) : madeCells (Value.int .i64 0).cells n = rowZ z 0 n := by
  apply Array.ext
  · rw [size_madeCells, rowZ_size (Nat.zero_le _)]
  · intro i h1 h2
    have e : (Value.int .i64 0).cells = #[.int .i64 0] := rfl
    simp [madeCells, rowZ, e, Nat.mod_one]
theorem rowZ_full {z : Int} {n : Nat} : (rowZ z n n).toList = zcells (List.replicate n z) := by
  simp [rowZ, zcells]
theorem min_nat (a b : Nat) : Nat.min a b = min a b := rfl

theorem row_new {W : World} {g : Nat} {cs : Array Value} {t : TypeId} (hg : W.heap.size = g) : RowAt (W.alloc (.cells cs t)) g t cs := by
  subst hg
  show (W.heap.push _)[W.heap.size]? = _
  simp

theorem mul_one_at (n : Nat) (hn : n ≤ 32) (w : World) :
    Calls Try.prog 32 #[.int .u64 1, .int .u64 (n : Int)] w fun e w' => e = .returned (.tuple #[.int .u64 0, .int .u64 (n : Int)]) ∧ w = w' := by
  have h := Try.bits_Mul 1 n (by omega) (by omega) w
  rw [show 1 * n / 18446744073709551616 = 0 by omega, show 1 * n % 18446744073709551616 = n by omega] at h
  exact h.mono fun e w' he => ⟨he.1, he.2.symm⟩

theorem OwnZ.ofRow {B g cap : Nat} {e : TypeId} {L : List Int} {W0 w : World} {cur : Array Value} (hr : RowAt w g e cur) (hB : B ≤ g) (hcap : L.length ≤ cap) (hmx : cap ≤ maxLen) (hsz : cur.size = cap)
    (htk : cur.toList.take L.length = zcells L) (hb : Below B W0 w) : OwnZ B e (.slice (some ⟨g, 0, none⟩) L.length cap) L W0 w :=
  ⟨⟨by simp [zcells], .inr ⟨g, cap, cur, rfl, hB, hr, hcap, hmx, by rw [hsz, Nat.mul_one], by rw [Nat.mul_one]; exact htk⟩⟩, hb, Nat.le_trans hB (Nat.le_of_lt hr.lt)⟩

set_option maxRecDepth 100000 in
set_option maxHeartbeats 2000000 in
theorem Repeat_any (g n : Nat) (z : Int) (w : World) (hrow : RowAt w g 3 #[.int .i64 z]) (hn1 : 1 ≤ n) (hn : n ≤ 32) :
    Calls Try.prog 16 #[.slice (some ⟨g, 0, none⟩) 1 1, .int .i64 (n : Int)] w fun e w' => ∃ v', e = .returned v' ∧ OwnZ w.heap.size 3 v' (List.replicate n z) w w' := by
  obtain ⟨i0, hi, hz0, hz1, hz2⟩ := info_parts Try.infoInt
  have hsz : (Try.prog.info? 3).map (·.size) = some 1 := by rw [hi]; simp [hz1]
  have hmk : ∀ (w : World), (Instr.makeSlice 25 (.int .i64 (n : Int)) (.int .i64 (n : Int))).run Try.prog w = .ok (.slice (some ⟨w.heap.size, 0, none⟩) n n) (w.alloc (.cells (rowZ z 0 n) 3)) := by
    intro w
    rw [run_make w _ _ i0 _ Try.underlying25 hi hz0 .i64 .i64 n n (by omega) (Int.le_refl _) (by rw [hz2]; omega) (by omega)]
    simp only [Int.toNat_natCast, hz1, Nat.mul_one, rowZ_made n z]
  obtain ⟨W0, hW0⟩ : ∃ W0, W0 = w.alloc (.cells (rowZ z 0 n) 3) := ⟨_, rfl⟩
  have hr0 : RowAt W0 w.heap.size 3 (rowZ z 0 n) := by rw [hW0]; show (w.heap.push _)[w.heap.size]? = _; simp
  have hgr : RowAt W0 g 3 #[.int .i64 z] := by rw [hW0]; exact hrow.alloc _
  obtain ⟨W1, hW1⟩ : ∃ W1, W1 = W0.setRow w.heap.size (rowZ z 1 n) := ⟨_, rfl⟩
  have hr1 : RowAt W1 w.heap.size 3 (rowZ z 1 n) := by rw [hW1]; exact hr0.set
  have hb1 : Below w.heap.size w W1 := by rw [hW1, hW0]; exact below_setRow (below_alloc (Below.refl _ _) _) (Nat.le_refl _) _
  have hcp0 : ∀ ty, (Builtin.copy_ #[25, 25] ty #[.slice (some ⟨w.heap.size, 0, none⟩) n n, .slice (some ⟨g, 0, none⟩) 1 1]).run Try.prog W0 = .ok (goInt 1) W1 := by
    intro ty
    have h := run_copy_row (P := Try.prog) W0 _ 25 ty _ w.heap.size 0 n n ⟨g, 0, none⟩ 1 1 _ _ (List.replicate 1 (Value.int .i64 z)) Try.underlying25 hsz hr0 (by rw [min_nat, List.length_replicate]; omega)
      (fun j v hj => by
        rw [Addr.add_lit, Nat.zero_add, hgr.cell]
        match j, hj with
        | 0, hj => exact hj
        | j + 1, hj => simp at hj) (by rw [rowZ_size (Nat.zero_le _)]; simp; omega) (by intro v hv; simp at hv; subst hv; rfl)
    rw [h, hW1]
    have e := rowZ_over (z := z) (k := 0) (m := 1) (n := n)
    unfold over at e
    rw [e]
    rfl
  rw [hW0] at hcp0
  have HR1 := Lib.hid hr1
  have HB1 := Lib.hid hb1
  have hd0 : decide ((n : Int) < 0) = false := by rw [decide_eq_false_iff_not]; omega
  have hd1 : decide ((9223372036854775807 : Int) < (n : Int)) = false := by rw [decide_eq_false_iff_not]; omega
  clear hr0 hgr hr1 hb1 hW1 hrow hW0
  go_enter Try.func16, Try.ntmps16
  go_wp2_with (go_at_call 32; refine (mul_one_at n hn _).mono ?_; rintro e w2 ⟨rfl, rfl⟩)
  clear hcp0
  go_loopw [8] (fun i wr => ∃ k : Nat, 1 ≤ k ∧ k ≤ n ∧ i = .int .i64 (k : Int) ∧ RowAt wr w.heap.size 3 (rowZ z k n) ∧ Below w.heap.size w wr) (fun i _ => n - (intOf i).toNat)
  case atStart => exact ⟨1, Nat.le_refl _, hn1, rfl, HR1.out, HB1.out⟩
  case round =>
    obtain ⟨k, hk1, hk, rfl, hr, hb⟩ := hrel
    by_cases hlt : k < n
    · obtain ⟨m, hm1, hm2, hm3, hm⟩ : ∃ m, 1 ≤ m ∧ k + m ≤ n ∧ m ≤ k ∧ m = Nat.min k (n - k) := ⟨min k (n - k), by omega, by omega, by omega, rfl⟩
      obtain ⟨W2, hW2⟩ : ∃ W2, W2 = wr.drew.setRow w.heap.size (rowZ z (k + m) n) := ⟨_, rfl⟩
      have hr2 : RowAt W2 w.heap.size 3 (rowZ z (k + m) n) := by rw [hW2]; exact hr.drew.set
      have hb2 : Below w.heap.size w W2 := by rw [hW2]; exact below_setRow hb.drew (Nat.le_refl _) _
      have hcp : ∀ ty dc sc, (Builtin.copy_ #[25, 25] ty #[.slice (some ⟨w.heap.size, k, none⟩) (n - k) dc, .slice (some ⟨w.heap.size, 0, none⟩) k sc]).run Try.prog wr.drew = .ok (goInt (m : Int)) W2 := by
        intro ty dc sc
        have h := run_copy_row (P := Try.prog) wr.drew _ 25 ty _ w.heap.size k (n - k) dc ⟨w.heap.size, 0, none⟩ k sc _ _ (List.replicate m (Value.int .i64 z)) Try.underlying25 hsz hr.drew (by rw [List.length_replicate, hm])
          (fun j v hj => by
            have hjm : j < m := by have := (List.getElem?_eq_some_iff.1 hj).1; simpa using this
            rw [Addr.add_lit, Nat.zero_add, hr.drew.cell, rowZ_cell (by omega), ← hj, List.getElem?_replicate, if_pos hjm]) (by rw [rowZ_size hk]; simp; omega) (by intro v hv; rw [(List.mem_replicate.1 hv).2]; rfl)
        rw [h, hW2]
        have e := rowZ_over (z := z) (k := k) (m := m) (n := n)
        unfold over at e
        rw [e, List.length_replicate]
      have HR2 := Lib.hid hr2
      have HB2 := Lib.hid hb2
      have hw := IntWalk.i64_in ((k : Int) + (m : Int)) (by omega)
      have hcc : ¬ (n = k) := by omega
      have hc0 : ¬ (n = 0) := by omega
      have hki : (0 : Int) ≤ (k : Int) := by omega
      have hkn : (k : Int) ≤ (n : Int) := by omega
      clear hr2 hb2 hW2 hr hm hb
      go_wp2
      go_region_law (refine step_copy_eq rfl _ _ 25 25 rfl _ _ (by simp [Act.eval, Act.put]) (by simp [Act.eval, Act.put]) (hcp _ _ _) ?_)
      all_goals
        go_simp
        go_wp2
        go_roundw
        case rel => exact ⟨k + m, by omega, hm2, by go_num, HR2.out, HB2.out⟩
        case measure => simp [intOf]; omega
    · have hkn : k = n := by omega
      subst hkn
      have hfin : OwnZ w.heap.size 3 (.slice (some ⟨w.heap.size, 0, none⟩) k k) (List.replicate k z) w wr := by
        have := OwnZ.ofRow (L := List.replicate k z) (cap := k) hr (Nat.le_refl _) (by simp) (by unfold maxLen; omega) (rowZ_size (Nat.le_refl _)) (by rw [rowZ_full, List.length_replicate, List.take_of_length_le (by simp [zcells])]) hb
        rw [List.length_replicate] at this
        exact this
      have HF := Lib.hid hfin
      clear hfin hr
      go_wp2
      go_ret
      exact ⟨_, rfl, HF.out⟩

set_option maxRecDepth 100000 in
set_option maxHeartbeats 1000000 in
theorem VNew_any (n : Int) (w : World) : Calls Try.prog 8 #[.int .i64 n] w (RetVol (newOf n).1 (newOf n).2 w) := by
  by_cases hin : 1 ≤ n ∧ n ≤ 32
  · have hr : newOf n = (newV n.toNat, 0) := by unfold newOf; rw [if_pos hin]
    rw [hr]
    obtain ⟨m, rfl⟩ : ∃ m : Nat, n = (m : Int) := ⟨n.toNat, by omega⟩
    rw [Int.toNat_natCast]
    have hm32 : m ≤ 32 := by omega
    have hm1 : 1 ≤ m := by omega
    clear hr hin
    go_enter Try.func8, Try.ntmps8
    go_wp2_with (go_at_call 16; refine (Repeat_any _ m (-1) _ (row_new (by simp)) hm1 hm32).mono ?_; rintro e w2 ⟨v2, rfl, hown⟩; obtain ⟨g2, cap2, rfl, hg1, hg2, hcap⟩ := hown.shape (by simp; omega); have e0 : w2.cell? ⟨w.heap.size, 0, none⟩ = some (.slice none 0 0) := (hown.below.cell (p := ⟨w.heap.size, 0, none⟩) (by simp; omega)).trans (by simp); have e1 : w2.cell? ⟨w.heap.size, 1, none⟩ = some (.slice none 0 0) := (hown.below.cell (p := ⟨w.heap.size, 1, none⟩) (by simp; omega)).trans (by simp); have f0 : w2.frozen? ⟨w.heap.size, 0, none⟩ = false := (hown.below.frozen (p := ⟨w.heap.size, 0, none⟩) (by simp; omega)).trans (by simp); have f1 : w2.frozen? ⟨w.heap.size, 1, none⟩ = false := (hown.below.frozen (p := ⟨w.heap.size, 1, none⟩) (by simp; omega)).trans (by simp); have HO := Lib.hid hown; clear hown)
    have hb2 : Below w.heap.size w w2 := below_then (below_alloc (below_alloc (Below.refl _ _) _) _) HO.out.below
    have hw2 : w.heap.size < w2.heap.size := by have := HO.out.below.size; simp at this; omega
    have hfin : OwnVol w.heap.size (.slice none 0 0) (.slice (some ⟨g2, 0, none⟩) (List.replicate m (-1 : Int)).length cap2) (newV m) w ((w2.setCell ⟨w.heap.size, 0, none⟩ (.slice none 0 0)).setCell ⟨w.heap.size, 1, none⟩ (.slice (some ⟨g2, 0, none⟩) (List.replicate m (-1 : Int)).length cap2)) := by
      have hbb := below_set2 hb2 (.slice none 0 0) (.slice (some ⟨g2, 0, none⟩) (List.replicate m (-1 : Int)).length cap2)
      refine ⟨OwnI.nil hbb hbb.size, ?_, Or.inl rfl⟩
      exact ((HO.out.setBox (g := w.heap.size) (k := 0) (x := .slice none 0 0) (by simp; omega)).setBox (g := w.heap.size) (k := 1) (x := .slice (some ⟨g2, 0, none⟩) (List.replicate m (-1 : Int)).length cap2) (by simp; omega)).lower (by simp; omega) hbb
    rw [List.length_replicate] at hfin
    refine bodyPost_ret (v := .tuple #[.agg #[.slice none 0 0, .slice (some ⟨g2, 0, none⟩) m cap2], .int .i64 0]) (by simp [results, Try.results8, go_sem, e0, e1]) rfl ⟨_, _, rfl, hfin⟩
  · have hr : newOf n = (⟨[], []⟩, 2) := by unfold newOf; rw [if_neg hin]
    rw [hr]
    have hb0 := below_alloc (Below.refl w.heap.size w) (.cells #[.slice none 0 0, .slice none 0 0] 27)
    clear hr
    by_cases h1 : n < 1
    · clear hin
      go_enter Try.func8, Try.ntmps8
      go_wp2
      refine bodyPost_ret (v := .tuple #[.agg #[.slice none 0 0, .slice none 0 0], .int .i64 2]) (by simp [results, Try.results8, go_sem]) rfl ⟨_, _, rfl, OwnVol.none hb0 hb0.size⟩
    · have h2 : 32 < n := by omega
      clear hin
      go_enter Try.func8, Try.ntmps8
      go_wp2
      refine bodyPost_ret (v := .tuple #[.agg #[.slice none 0 0, .slice none 0 0], .int .i64 2]) (by simp [results, Try.results8, go_sem]) rfl ⟨_, _, rfl, OwnVol.none hb0 hb0.size⟩
end Go.Proofs.Ythjaanhkmfiajac
