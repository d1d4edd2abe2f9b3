/- slices.Grow of nil and slices.Concat at actions. Conditions: at least one action in all, and at most a thousand. -/
import Derived.Test.YthjaanhkmfiajacGreatDoorRows6
import Derived.Test.YthjaanhkmfiajacGreatDoorKeepActs
import Derived.Test.YthjaanhkmfiajacGreatDoorTopBase
import Derived.Lib.AppendZeros
namespace Go.Proofs.YthjaanhkmfiajacGreatDoor
open Go.RowKit

set_option maxRecDepth 100000 in
set_option maxHeartbeats 1000000 in
theorem GrowA_any (n : Nat) (hn : 1 ≤ n ∧ n ≤ 1000) (w : World) :
    Calls Tryz.prog 38 #[.slice none 0 0, .int .i64 (n : Int)] w fun e w' => ∃ v', e = .returned v' ∧ OwnActs w.heap.size v' [] w w' := by
  obtain ⟨i0, hi, hz0, hz1, hz2⟩ := info_parts infoAct
  obtain ⟨cp, W1, hrun, hcp, hown⟩ : ∃ cp W1, (∀ ty, (Builtin.append_ #[23, 3] ty #[.slice none 0 0, .int .i64 (n : Int)]).run Tryz.prog w = .ok (.slice (some ⟨w.heap.size, 0, none⟩) n cp) W1) ∧ n ≤ cp ∧ OwnActs w.heap.size (.slice (some ⟨w.heap.size, 0, none⟩) 0 cp) [] w W1 := by
    refine ⟨_, _, fun ty => Lib.run_append_nil_zeros (P := Tryz.prog) w 23 3 ty 36 i0 _ .i64 .i64 Tryz.underlying23 Tryz.underlying3 hi hz0 n (by omega) (by rw [hz1]; omega) (by omega) (by rw [hz2]; omega), grownCap_ge _ _ _ _, ?_⟩
    have hge := grownCap_ge w n 0 36
    have hmx := grownCap_le_maxLen w n 0 36 (by unfold maxLen; omega)
    refine OwnR.ofRow actE (L := []) (heap_alloc_new _ _) (Nat.le_refl _) (Nat.zero_le _) hmx ?_ (by simp [rcells]) (below_alloc (Below.refl _ _).drew _)
    simp [Builtin.zeroCells, Value.cells]
    omega
  have hw0 := IntWalk.i64_in (n : Int) (by omega)
  have hn0 : ¬ ((n : Int) < 0) := by omega
  have hn1 : (0 : Int) < (n : Int) := by omega
  have HRUN := Lib.hid hrun
  clear hrun hi hz0 hz1 hz2
  go_enter Tryz.func38, Tryz.ntmps38
  go_wp2_with (at_builtin; refine Lib.wpList_append_run _ rfl _ _ _ _ rfl _ _ rfl rfl _ _ (HRUN.out _) ?_)
  go_ret
  exact ⟨_, rfl, hown⟩

theorem flat_take {α : Type} {Ls : List (List α)} {k : Nat} {M : List α} (h : Ls[k]? = some M) : (Ls.take (k + 1)).flatten = (Ls.take k).flatten ++ M := by
  rw [List.take_add_one, h]
  simp
theorem flat_le {α : Type} (Ls : List (List α)) (k : Nat) : (Ls.take k).flatten.length ≤ Ls.flatten.length := by
  have := congrArg (fun L => (List.flatten L).length) (List.take_append_drop k Ls)
  simp only [List.flatten_append, List.length_append] at this
  omega

set_option maxRecDepth 100000 in
set_option maxHeartbeats 2000000 in
theorem Concat_any (v : Value) (R : List Sl) (Ls : List (List EM.Act)) (w : World) (h : RowsAt slC 1 w v R) (hl : R.length = Ls.length) (hr : ∀ (i : Nat) (s : Sl) (M : List EM.Act), R[i]? = some s → Ls[i]? = some M → ActsAt w s.v M) (h1 : 1 ≤ Ls.flatten.length) (h2 : Ls.flatten.length ≤ 1000) :
    Calls Tryz.prog 27 #[v] w fun e w' => ∃ v', e = .returned v' ∧ OwnActs w.heap.size v' Ls.flatten w w' := by
  obtain ⟨i0, hi, hz0, hz1, hz2⟩ := info_parts infoAct
  obtain ⟨p, cap, rfl, _, _, hc⟩ := h
  have HC := Lib.hid hc
  have HR := Lib.hid hr
  have HL := Lib.hid hl
  have H1 := Lib.hid h1
  have H2 := Lib.hid h2
  clear hc hr hl h1 h2
  go_enter Tryz.func27, Tryz.ntmps27
  go_wp2
  go_loopw [3, 11] (fun sz i wr => ∃ k m : Nat, k ≤ R.length ∧ sz = .int .i64 (m : Int) ∧ i = .int .i64 (k : Int) ∧ m ≤ 1000 ∧ Hid (m = (Ls.take k).flatten.length) ∧ Below w.heap.size w wr) (fun _ i _ => R.length - (intOf i).toNat)
  case atStart => exact ⟨0, 0, Nat.zero_le _, rfl, rfl, Nat.zero_le _, Lib.hid (by simp), Below.refl _ _⟩
  case round =>
    obtain ⟨k, m, hk, rfl, rfl, hm, HM, hb0⟩ := hrel
    by_cases hlt : k < R.length
    · obtain ⟨s, hs⟩ : ∃ s, R[k]? = some s := ⟨R[k], List.getElem?_eq_getElem hlt⟩
      obtain ⟨M, hM⟩ : ∃ M, Ls[k]? = some M := ⟨Ls[k]'(by rw [← HL.out]; exact hlt), List.getElem?_eq_getElem _⟩
      obtain ⟨b, off, rfl, hbl, h0⟩ := HC.out k s hs
      have c0 := (hb0.cell (p := ⟨b, off + k * 1 + 0, none⟩) hbl).trans (h0 0 (by decide))
      simp only [slC, List.getElem?_cons_zero, Nat.add_zero, Nat.mul_one] at c0
      have hsl : s.len = M.length := by
        obtain ⟨_, _, hv, _⟩ := HR.out k s M hs hM
        injection hv
      have hnew : m + M.length = (Ls.take (k + 1)).flatten.length := by rw [flat_take hM, List.length_append, ← HM.out]
      have hnl : m + M.length ≤ 1000 := by have := flat_le Ls (k + 1); have := H2.out; omega
      have HNEW := Lib.hid hnew
      have hwk := IntWalk.i64_in ((m : Int) + (M.length : Int)) (by omega)
      have hneg : ¬ ((m : Int) + (M.length : Int) < 0) := by omega
      rw [Sl.v, hsl] at c0
      clear hnew hsl h0 hs hM
      go_wp2
      go_roundw
      case rel => exact ⟨k + 1, m + M.length, by omega, by go_num, by go_num, hnl, HNEW.out, hb0⟩
      case measure => simp [intOf]; omega
    · have hkl : k = R.length := by omega
      have hmT : m = Ls.flatten.length := by
        rw [HM.out, hkl, HL.out, List.take_length]
      have hm1 : 1 ≤ m := by rw [hmT]; exact H1.out
      have HMT := Lib.hid hmT
      subst hkl
      clear hmT HM
      go_wp2_with (go_at_call 38; refine (GrowA_any m ⟨hm1, hm⟩ _).mono ?_; rintro e w1 ⟨v1, rfl, ho1⟩; have HO1 := Lib.hid (ho1.lower hb0.size hb0); clear ho1)
      go_loopw [6, 27] (fun ns i wr => ∃ k : Nat, k ≤ R.length ∧ i = .int .i64 (k : Int) ∧ OwnActs w.heap.size ns (Ls.take k).flatten w wr) (fun _ i _ => R.length - (intOf i).toNat)
      case atStart => exact ⟨0, Nat.zero_le _, rfl, HO1.out.cast (by simp)⟩
      case round =>
        obtain ⟨k, hk, rfl, hown⟩ := hrel
        obtain ⟨pX, cX, rfl⟩ := hown.isSlice
        have HOWN := Lib.hid hown
        have hbr : Below w.heap.size w wr := hown.below
        have hle := flat_le Ls k
        have h2 := H2.out
        obtain ⟨F, hF⟩ : ∃ F, F = (Ls.take k).flatten := ⟨_, rfl⟩
        rw [← hF] at HOWN hle ⊢
        have HF := Lib.hid hF
        clear hown hF
        by_cases hlt : k < R.length
        · obtain ⟨s, hs⟩ : ∃ s, R[k]? = some s := ⟨R[k], List.getElem?_eq_getElem hlt⟩
          obtain ⟨M, hM⟩ : ∃ M, Ls[k]? = some M := ⟨Ls[k]'(by rw [← HL.out]; exact hlt), List.getElem?_eq_getElem _⟩
          obtain ⟨b, off, rfl, hbl, h0⟩ := HC.out k s hs
          have c0 := (hbr.cell (p := ⟨b, off + k * 1 + 0, none⟩) hbl).trans (h0 0 (by decide))
          simp only [slC, List.getElem?_cons_zero, Nat.add_zero, Nat.mul_one] at c0
          have hma := (HR.out k s M hs hM).keep hbr
          have hnl : F.length + M.length ≤ 1000 := by
            have := flat_le Ls (k + 1)
            rw [flat_take hM, List.length_append, ← HF.out] at this
            omega
          have hnew : F ++ M = (Ls.take (k + 1)).flatten := by rw [flat_take hM, ← HF.out]
          have HNEW := Lib.hid hnew
          have HMA := Lib.hid hma
          clear hnew hma h0 hs hM h2 hle
          go_wp2_with (at_builtin; refine wpList_own_rs actE rfl (.tmp 31) (.tmp 32) 23 rfl w.heap.size 36 i0 _ 40 Tryz.underlying23 hi hz0 rfl hz1 hz2 _ F rfl w M _ HOWN.out HMA.out rfl (by omega) (by omega) ?_; intro v5 w5 ho5 hg5)
          go_roundw
          case rel => exact ⟨k + 1, by omega, by go_num, ho5.cast HNEW.out⟩
          case measure => simp [intOf]; omega
        · have hkl : k = R.length := by omega
          have hfl : F = Ls.flatten := by rw [HF.out, hkl, HL.out, List.take_length]
          have HFL := Lib.hid hfl
          clear hfl
          go_wp2
          go_ret
          exact ⟨_, rfl, HOWN.out.cast HFL.out⟩

/-- a literal's row, its place named -/
theorem rows_new_at {α : Type} {enc : α → List Value} {k : Nat} (he : Enc enc k) (M : List α) (n : Nat) (hn : n = M.length) (hl : M.length ≤ 1000) (w : World) (T : TypeId) (o : Array Value) (ho : o = (rcells enc M).toArray) (g : Nat) (hg : g = w.heap.size) :
    RowsAt enc k (w.alloc (.cells o T)) (.slice (some ⟨g, 0, none⟩) n n) M := by
  subst hg hn
  exact rows_new he M (by omega) w T o ho
theorem acts4 {w : World} {s0 s1 s2 s3 : Sl} {A0 A1 A2 A3 : List EM.Act} (h0 : ActsAt w s0.v A0) (h1 : ActsAt w s1.v A1) (h2 : ActsAt w s2.v A2) (h3 : ActsAt w s3.v A3) :
    ∀ (i : Nat) (s : Sl) (M : List EM.Act), [s0, s1, s2, s3][i]? = some s → [A0, A1, A2, A3][i]? = some M → ActsAt w s.v M := by
  intro i s M hs hM
  match i, hs, hM with
  | 0, hs, hM => cases hs; cases hM; exact h0
  | 1, hs, hM => cases hs; cases hM; exact h1
  | 2, hs, hM => cases hs; cases hM; exact h2
  | 3, hs, hM => cases hs; cases hM; exact h3
  | n + 4, hs, hM => simp at hs
theorem acts2 {w : World} {s0 s1 : Sl} {A0 A1 : List EM.Act} (h0 : ActsAt w s0.v A0) (h1 : ActsAt w s1.v A1) :
    ∀ (i : Nat) (s : Sl) (M : List EM.Act), [s0, s1][i]? = some s → [A0, A1][i]? = some M → ActsAt w s.v M := by
  intro i s M hs hM
  match i, hs, hM with
  | 0, hs, hM => cases hs; cases hM; exact h0
  | 1, hs, hM => cases hs; cases hM; exact h1
  | n + 2, hs, hM => simp at hs
theorem concat_of (R : List Sl) (Ls : List (List EM.Act)) (w : World) (hl : R.length = Ls.length) (hR : R.length ≤ 1000) (hr : ∀ (i : Nat) (s : Sl) (M : List EM.Act), R[i]? = some s → Ls[i]? = some M → ActsAt w s.v M) (h1 : 1 ≤ Ls.flatten.length) (h2 : Ls.flatten.length ≤ 1000)
    (T : TypeId) (o : Array Value) (ho : o = (rcells slC R).toArray) (g n : Nat) (hg : g = w.heap.size) (hn : n = R.length) :
    Calls Tryz.prog 27 #[.slice (some ⟨g, 0, none⟩) n n] (w.alloc (.cells o T)) fun e w' => ∃ v', e = .returned v' ∧ OwnActs w.heap.size v' Ls.flatten w w' := by
  have hb := below_alloc (Below.refl w.heap.size w) (.cells o T)
  refine (Concat_any _ R Ls _ (rows_new_at slE R n hn hR w T o ho g hg) hl (fun i s M hs hM => (hr i s M hs hM).keep hb) h1 h2).mono ?_
  rintro e w' ⟨v', rfl, ho'⟩
  exact ⟨v', rfl, ho'.lower hb.size hb⟩
end Go.Proofs.YthjaanhkmfiajacGreatDoor
