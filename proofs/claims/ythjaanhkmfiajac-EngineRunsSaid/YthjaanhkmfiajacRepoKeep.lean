/- repo.smallestUnused, repo.add and repo.Keep: what they return. Condition: none but that the slice is one of items. -/
import Derived.Test.YthjaanhkmfiajacRepoDrop
import Derived.Test.YthjaanhkmfiajacItemsInsert
import Derived.Test.YthjaanhkmfiajacPure
namespace Go.Proofs.Ythjaanhkmfiajac
open Go.RowKit Go.Maps

set_option maxRecDepth 100000 in
theorem smallestUnused_any (v : Value) (L : List It) (w : World) (h : ItemsAt w v L) :
    Calls Try.prog 87 #[v] w fun e w' => ∃ k : Nat, e = .returned (.int .i64 (k : Int)) ∧ Gap L k ∧ Below w.heap.size w w' := by
  obtain ⟨p, cap, rfl, hl, _, hc⟩ := h
  have HC := Lib.hid hc
  clear hc
  go_enter Try.func87, Try.ntmps87
  go_wp2
  go_loopw [7] (fun i wr => ∃ k : Nat, k ≤ L.length ∧ i = .int .i64 k ∧ (∀ (j : Nat) (y : It), j < k → L[j]? = some y → y.id = (j : Int)) ∧ Below w.heap.size w wr) (fun i _ => L.length - (intOf i).toNat)
  case atStart => exact ⟨0, Nat.zero_le _, rfl, fun j y hj => absurd hj (by omega), Below.refl _ _⟩
  case round =>
    obtain ⟨k, hk, rfl, hall, hb⟩ := hrel
    have HA := Lib.hid hall
    clear hall
    by_cases hlt : k < L.length
    · obtain ⟨x, hx⟩ : ∃ x, L[k]? = some x := ⟨L[k], List.getElem?_eq_getElem hlt⟩
      obtain ⟨b, off, rfl, hbl, c0, c1, c2⟩ := HC.out k x hx
      replace c0 := (hb.cell (p := ⟨b, _, none⟩) hbl).trans c0
      replace c1 := (hb.cell (p := ⟨b, _, none⟩) hbl).trans c1
      replace c2 := (hb.cell (p := ⟨b, _, none⟩) hbl).trans c2
      have HX := Lib.hid hx
      clear hx
      by_cases hid : x.id = (k : Int)
      · have ht : (x.id != (k : Int)) = false := by simpa using hid
        have HID := Lib.hid hid
        clear hid
        go_wp2
        go_roundw
        case rel =>
          refine ⟨k + 1, by omega, by go_num, fun j y hj hy => ?_, below_alloc hb _⟩
          by_cases hjk : j < k
          · exact HA.out j y hjk hy
          · obtain rfl : j = k := by omega
            rw [HX.out] at hy; cases hy; exact HID.out
        case measure => simp [intOf]; omega
      · have ht : (x.id != (k : Int)) = true := by simpa using hid
        have HG : Hid (Gap L k) := ⟨by omega, HA.out, fun z hz => by rw [HX.out] at hz; cases hz; exact hid⟩
        clear hid
        go_wp2
        go_ret
        exact ⟨k, rfl, HG.out, below_alloc hb _⟩
    · have hkl : k = L.length := by omega
      have HG : Hid (Gap L L.length) := ⟨Nat.le_refl _, hkl ▸ HA.out, fun z hz => by simp at hz⟩
      clear hkl
      go_wp2
      go_ret
      exact ⟨L.length, rfl, HG.out, hb⟩

set_option maxRecDepth 100000 in
set_option maxHeartbeats 1000000 in
theorem add_any (v : Value) (L : List It) (d : ByteArray) (w : World) (h : ItemsAt w v L) (hm : mayB L = true) :
    Calls Try.prog 83 #[v, .string d] w (RetKept (added L d).1 (added L d).2.1 (added L d).2.2 w) := by
  have h' := h
  obtain ⟨p, cap, rfl, hl, _, hc⟩ := h'
  have HI := Lib.hid h
  clear hc h
  have hlen := may_len hm
  have HM := Lib.hid hm
  clear hm
  obtain ⟨R, hR⟩ : ∃ R, R = added L d := ⟨_, rfl⟩
  rw [← hR]
  have HR := Lib.hid hR
  clear hR
  by_cases hfull : L.length = 24
  · obtain ⟨k, hg⟩ : ∃ k, Gap L k := ⟨24, by omega, fun j y hj hy => by
      have h1 := id_ge HM.out j y hy
      apply Classical.byContradiction
      intro hne
      have hz := List.getElem?_eq_getElem (l := L) (i := j + (23 - j)) (by omega)
      have := id_up HM.out hy hne (23 - j) _ hz
      have := (may_ok HM.out hz).2.1
      omega, fun x hx => by rw [List.getElem?_eq_none (by omega)] at hx; cases hx⟩
    have hr : R = ([], 0, 1) := by
      rw [HR.out]
      unfold added
      rw [if_pos (by rw [gap_free HM.out hg, gap_full HM.out hfull hg]; omega)]
    subst hr
    clear hg
    go_enter Try.func83, Try.ntmps83
    go_wp2
    go_ret3
    exact ⟨_, rfl, OwnI.nil (Below.refl _ _) (Nat.le_refl _)⟩
  · have hsz : L.length * 32 ≤ 140737488355328 := by omega
    go_enter Try.func83, Try.ntmps83
    go_wp2_with (first
      | (go_at_call 87; refine (smallestUnused_any _ L _ HI.out).mono ?_; rintro e w1 ⟨k, rfl, hg, hb1⟩; have HG := Lib.hid hg; have hk24 : k < 24 := (by have := hg.1; omega); have hkl := hg.1; clear hg)
      | (go_at_call 17; refine (Clone_any _ L _ (HI.out.keep hb1) hsz).mono ?_; rintro e w2 ⟨v2, rfl, hown2⟩; have HOWN := Lib.hid (hown2.lower hb1.size hb1); clear hown2)
      | (go_at_call 88; refine (Insert_any w.heap.size v2 L k ⟨(k : Int), d, 1⟩ w2.heap.size w _ (HOWN.out.alloc _) hkl hlen (heap_alloc_new w2 _) (fun he => by have := (HOWN.out.1.lt _ he).2; omega)).mono ?_; rintro e w3 ⟨v3, rfl, hown3⟩))
    go_ret3
    have hr : R = (L.take k ++ [⟨(k : Int), d, 1⟩] ++ L.drop k, (k : Int), 0) := by
      rw [HR.out]
      unfold added
      rw [if_neg (by rw [gap_free HM.out HG.out]; omega), gap_free HM.out HG.out, gap_lower HM.out HG.out, gap_upper HM.out HG.out]
    rw [hr]
    exact ⟨_, rfl, hown3⟩
end Go.Proofs.Ythjaanhkmfiajac
