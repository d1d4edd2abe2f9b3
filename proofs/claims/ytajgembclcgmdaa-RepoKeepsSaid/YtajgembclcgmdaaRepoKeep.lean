/- repo.smallestUnused, repo.add and repo.Keep: what they return. Condition: none but that the slice is one of items. -/
import Derived.Test.YtajgembclcgmdaaRepoDrop
import Derived.Test.YtajgembclcgmdaaItemsInsert
import Derived.Test.YtajgembclcgmdaaRefKept
namespace Go.Proofs.Ytajgembclcgmdaa
open Go.RowKit Go.Maps

/-- k is the first place whose id is not the place -/
def Gap (L : List It) (k : Nat) : Prop := k ≤ L.length ∧ (∀ (j : Nat) (y : It), j < k → L[j]? = some y → y.id = (j : Int)) ∧ ∀ x, L[k]? = some x → x.id ≠ (k : Int)

set_option maxRecDepth 100000 in
theorem smallestUnused_any (v : Value) (L : List It) (w : World) (h : ItemsAt w v L) :
    Calls Try.prog 43 #[v] w fun e w' => ∃ k : Nat, e = .returned (.int .i64 (k : Int)) ∧ Gap L k ∧ Below w.heap.size w w' := by
  obtain ⟨p, cap, rfl, hl, _, hc⟩ := h
  have HC := Lib.hid hc
  clear hc
  go_enter Try.func43, Try.ntmps43
  go_wp2
  go_loopw [7] (fun i wr => ∃ k : Nat, k ≤ L.length ∧ i = .int .i64 k ∧ (∀ (j : Nat) (y : It), j < k → L[j]? = some y → y.id = (j : Int)) ∧ Below w.heap.size w wr) (fun i _ => L.length - (intOf i).toNat)
  case atStart => exact ⟨0, Nat.zero_le _, rfl, fun j y hj => absurd hj (by omega), Below.refl _ _⟩
  case round =>
    obtain ⟨k, hk, rfl, hall, hb⟩ := hrel
    have HA := Lib.hid hall
    clear hall
    by_cases hlt : k < L.length
    · obtain ⟨x, hx⟩ : ∃ x, L[k]? = some x := ⟨L[k], List.getElem?_eq_getElem hlt⟩
      obtain ⟨b, off, rfl, hbl, c0, c1, c2⟩ := HC.out k x hx
      replace c0 := (hb.cell (p := ⟨b, _, none⟩) hbl).trans c0
      replace c1 := (hb.cell (p := ⟨b, _, none⟩) hbl).trans c1
      replace c2 := (hb.cell (p := ⟨b, _, none⟩) hbl).trans c2
      have HX := Lib.hid hx
      clear hx
      by_cases hid : x.id = (k : Int)
      · have ht : (x.id != (k : Int)) = false := by simpa using hid
        have HID := Lib.hid hid
        clear hid
        go_wp2
        go_roundw
        case rel =>
          refine ⟨k + 1, by omega, by go_num, fun j y hj hy => ?_, below_alloc hb _⟩
          by_cases hjk : j < k
          · exact HA.out j y hjk hy
          · obtain rfl : j = k := by omega
            rw [HX.out] at hy; cases hy; exact HID.out
        case measure => simp [intOf]; omega
      · have ht : (x.id != (k : Int)) = true := by simpa using hid
        have HG : Hid (Gap L k) := ⟨by omega, HA.out, fun z hz => by rw [HX.out] at hz; cases hz; exact hid⟩
        clear hid
        go_wp2
        go_ret
        exact ⟨k, rfl, HG.out, below_alloc hb _⟩
    · have hkl : k = L.length := by omega
      have HG : Hid (Gap L L.length) := ⟨Nat.le_refl _, hkl ▸ HA.out, fun z hz => by simp at hz⟩
      clear hkl
      go_wp2
      go_ret
      exact ⟨L.length, rfl, HG.out, hb⟩

theorem id_ge {L : List It} (hm : mayB L = true) : ∀ (j : Nat) (y : It), L[j]? = some y → (j : Int) ≤ y.id
  | 0, y, hy => by have := (may_ok hm hy).1; omega
  | j + 1, y, hy => by
    have hj := (List.getElem?_eq_some_iff.1 hy).1
    have hp := List.getElem?_eq_getElem (l := L) (i := j) (by omega)
    have ih := id_ge hm j _ hp
    have ha := (may_apart hm (Nat.lt_succ_self j) hp hy).1
    omega
theorem id_up {L : List It} (hm : mayB L = true) {k : Nat} {x : It} (hx : L[k]? = some x) (hne : x.id ≠ (k : Int)) : ∀ (m : Nat) (z : It), L[k + m]? = some z → (k : Int) + 1 + m ≤ z.id
  | 0, z, hz => by
    rw [Nat.add_zero, hx] at hz; cases hz
    have := id_ge hm k x hx
    omega
  | m + 1, z, hz => by
    have hj := (List.getElem?_eq_some_iff.1 hz).1
    have hp := List.getElem?_eq_getElem (l := L) (i := k + m) (by omega)
    have ih := id_up hm hx hne m _ hp
    have ha := (may_apart hm (show k + m < k + (m + 1) by omega) hp hz).1
    omega
theorem gap_full {L : List It} (hm : mayB L = true) (hl : L.length = 24) {k : Nat} (hg : Gap L k) : k = 24 := by
  apply Classical.byContradiction
  intro hk
  have hk24 : k < 24 := by have := hg.1; omega
  have hx := List.getElem?_eq_getElem (l := L) (i := k) (by omega)
  have hz := List.getElem?_eq_getElem (l := L) (i := k + (23 - k)) (by omega)
  have h1 := id_up hm hx (hg.2.2 _ hx) (23 - k) _ hz
  have h2 := (may_ok hm hz).2.1
  omega
theorem gap_pos {L : List It} (hm : mayB L = true) {k : Nat} (hg : Gap L k) : pos L (k : Int) = none := by
  refine pos_none (fun j y hy he => ?_)
  by_cases h1 : j < k
  · have := hg.2.1 j y h1 hy; omega
  · by_cases h2 : j = k
    · subst h2; exact hg.2.2 y hy he
    · have := id_ge hm j y hy; omega
theorem gap_free {L : List It} (hm : mayB L = true) {k : Nat} (hg : Gap L k) : freeId L = k := by
  have hl := may_len hm
  refine free_at (by have := hg.1; omega) (gap_pos hm hg) (fun j hj => ?_)
  have hy := List.getElem?_eq_getElem (l := L) (i := j) (by have := hg.1; omega)
  refine ⟨j, pos_at hy (hg.2.1 j _ hj hy) (fun i z hi hz he => ?_)⟩
  have := hg.2.1 i z (by omega) hz
  omega
theorem gap_lower {L : List It} (hm : mayB L = true) {k : Nat} (hg : Gap L k) : L.filter (fun x => decide (x.id < (k : Int))) = L.take k := by
  have hk := hg.1
  have e : L.filter (fun x => decide (x.id < (k : Int))) = (L.take k ++ L.drop k).filter (fun x => decide (x.id < (k : Int))) := by rw [List.take_append_drop]
  rw [e, List.filter_append]
  have h1 : (L.take k).filter (fun x => decide (x.id < (k : Int))) = L.take k := by
    rw [List.filter_eq_self]
    intro y hy
    obtain ⟨i, hi⟩ := List.getElem?_of_mem hy
    have hil := (List.getElem?_eq_some_iff.1 hi).1
    simp at hil
    rw [List.getElem?_take_of_lt (by omega)] at hi
    have := hg.2.1 i y (by omega) hi
    simp; omega
  have h2 : (L.drop k).filter (fun x => decide (x.id < (k : Int))) = [] := by
    rw [List.filter_eq_nil_iff]
    intro y hy
    obtain ⟨i, hi⟩ := List.getElem?_of_mem hy
    rw [List.getElem?_drop] at hi
    have := id_ge hm _ y hi
    simp; omega
  rw [h1, h2, List.append_nil]
theorem gap_upper {L : List It} (hm : mayB L = true) {k : Nat} (hg : Gap L k) : L.filter (fun x => decide ((k : Int) < x.id)) = L.drop k := by
  have hk := hg.1
  have e : L.filter (fun x => decide ((k : Int) < x.id)) = (L.take k ++ L.drop k).filter (fun x => decide ((k : Int) < x.id)) := by rw [List.take_append_drop]
  rw [e, List.filter_append]
  have h1 : (L.take k).filter (fun x => decide ((k : Int) < x.id)) = [] := by
    rw [List.filter_eq_nil_iff]
    intro y hy
    obtain ⟨i, hi⟩ := List.getElem?_of_mem hy
    have hil := (List.getElem?_eq_some_iff.1 hi).1
    simp at hil
    rw [List.getElem?_take_of_lt (by omega)] at hi
    have := hg.2.1 i y (by omega) hi
    simp; omega
  have h2 : (L.drop k).filter (fun x => decide ((k : Int) < x.id)) = L.drop k := by
    rw [List.filter_eq_self]
    intro y hy
    obtain ⟨i, hi⟩ := List.getElem?_of_mem hy
    rw [List.getElem?_drop] at hi
    have := id_ge hm _ y hi
    by_cases h0 : i = 0
    · subst h0
      have := hg.2.2 y (by simpa using hi)
      simp; omega
    · simp; omega
  rw [h1, h2, List.nil_append]

/-- what add gives -/
def added (L : List It) (d : ByteArray) : List It × Int × Int :=
  if 23 < freeId L then ([], 0, 1)
  else (L.filter (fun x => decide (x.id < (freeId L : Int))) ++ [⟨(freeId L : Int), d, 1⟩] ++ L.filter (fun x => decide ((freeId L : Int) < x.id)), (freeId L : Int), 0)

set_option maxRecDepth 100000 in
set_option maxHeartbeats 1000000 in
theorem add_any (v : Value) (L : List It) (d : ByteArray) (w : World) (h : ItemsAt w v L) (hm : mayB L = true) :
    Calls Try.prog 33 #[v, .string d] w (RetKept (added L d).1 (added L d).2.1 (added L d).2.2 w) := by
  have h' := h
  obtain ⟨p, cap, rfl, hl, _, hc⟩ := h'
  have HI := Lib.hid h
  clear hc h
  have hlen := may_len hm
  have HM := Lib.hid hm
  clear hm
  obtain ⟨R, hR⟩ : ∃ R, R = added L d := ⟨_, rfl⟩
  rw [← hR]
  have HR := Lib.hid hR
  clear hR
  by_cases hfull : L.length = 24
  · obtain ⟨k, hg⟩ : ∃ k, Gap L k := ⟨24, by omega, fun j y hj hy => by
      have h1 := id_ge HM.out j y hy
      apply Classical.byContradiction
      intro hne
      have hz := List.getElem?_eq_getElem (l := L) (i := j + (23 - j)) (by omega)
      have := id_up HM.out hy hne (23 - j) _ hz
      have := (may_ok HM.out hz).2.1
      omega, fun x hx => by rw [List.getElem?_eq_none (by omega)] at hx; cases hx⟩
    have hr : R = ([], 0, 1) := by
      rw [HR.out]
      unfold added
      rw [if_pos (by rw [gap_free HM.out hg, gap_full HM.out hfull hg]; omega)]
    subst hr
    clear hg
    go_enter Try.func33, Try.ntmps33
    go_wp2
    go_ret3
    exact ⟨_, rfl, OwnI.nil (Below.refl _ _) (Nat.le_refl _)⟩
  · have hsz : L.length * 32 ≤ 140737488355328 := by omega
    go_enter Try.func33, Try.ntmps33
    go_wp2_with (first
      | (go_at_call 43; refine (smallestUnused_any _ L _ HI.out).mono ?_; rintro e w1 ⟨k, rfl, hg, hb1⟩; have HG := Lib.hid hg; have hk24 : k < 24 := (by have := hg.1; omega); have hkl := hg.1; clear hg)
      | (go_at_call 35; refine (Clone_any _ L _ (HI.out.keep hb1) hsz).mono ?_; rintro e w2 ⟨v2, rfl, hown2⟩; have HOWN := Lib.hid (hown2.lower hb1.size hb1); clear hown2)
      | (go_at_call 44; refine (Insert_any w.heap.size v2 L k ⟨(k : Int), d, 1⟩ w2.heap.size w _ (HOWN.out.alloc _) hkl hlen (heap_alloc_new w2 _) (fun he => by have := (HOWN.out.1.lt _ he).2; omega)).mono ?_; rintro e w3 ⟨v3, rfl, hown3⟩))
    go_ret3
    have hr : R = (L.take k ++ [⟨(k : Int), d, 1⟩] ++ L.drop k, (k : Int), 0) := by
      rw [HR.out]
      unfold added
      rw [if_neg (by rw [gap_free HM.out HG.out]; omega), gap_free HM.out HG.out, gap_lower HM.out HG.out, gap_upper HM.out HG.out]
    rw [hr]
    exact ⟨_, rfl, hown3⟩
end Go.Proofs.Ytajgembclcgmdaa
