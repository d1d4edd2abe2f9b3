/- The document's KeptOf: what it returns. Condition: none but that the slice is one of items. -/
import Derived.Test.YtajjhjabehiikabRefUsed
import Derived.Test.YtajjhjabehiikabKeptMath
namespace Go.Proofs.Ytajjhjabehiikab
open Go.RowKit

set_option maxRecDepth 100000 in
set_option maxHeartbeats 2000000 in
theorem KeptOf_any (v : Value) (L : List It) (d : ByteArray) (w : World) (h : ItemsAt w v L) :
    Calls Try.prog 26 #[v, .string d] w (RetKept (kept L d).1 (kept L d).2.1 (kept L d).2.2 w) := by
  obtain ⟨i0, hi, hz0, hz1, hz2⟩ := info_parts Try.infoItem
  have h' := h
  obtain ⟨p, cap, rfl, hl, _, hc⟩ := h'
  have HI := Lib.hid h
  have HC := Lib.hid hc
  clear hc h
  cases hm : mayB L with
  | false =>
    have hu : kept L d = ([], 0, 7) := by unfold kept; rw [if_pos hm]
    have HM := Lib.hid hm
    rw [hu]
    clear hu hm
    go_enter Try.func26, Try.ntmps26
    go_wp2_with (go_at_call 44; refine (ItemsMay_any _ L _ HI.out).mono ?_; rw [HM.out]; rintro e w1 ⟨rfl, hb1⟩)
    go_ret3
    exact ⟨_, rfl, OwnI.nil hb1 hb1.size⟩
  | true =>
    have HM := Lib.hid hm
    by_cases hd48 : 48 < d.size
    · have hu : kept L d = ([], 0, 1) := by unfold kept; rw [if_neg (by simp [hm]), if_pos hd48]
      rw [hu]
      clear hu hm
      go_enter Try.func26, Try.ntmps26
      go_wp2_with (go_at_call 44; refine (ItemsMay_any _ L _ HI.out).mono ?_; rw [HM.out]; rintro e w1 ⟨rfl, hb1⟩)
      go_ret3
      exact ⟨_, rfl, OwnI.nil hb1 hb1.size⟩
    · have hk0 : kept L d = match posData L d with
          | some k => if (used L (L[k]?.getD It.zero).id).2 ≠ 0 then ([], 0, (used L (L[k]?.getD It.zero).id).2) else ((used L (L[k]?.getD It.zero).id).1, (L[k]?.getD It.zero).id, 0)
          | none => if 23 < freeId L then ([], 0, 1)
            else (L.filter (fun x => decide (x.id < (freeId L : Int))) ++ [⟨(freeId L : Int), d, 1⟩] ++ L.filter (fun x => decide ((freeId L : Int) < x.id)), (freeId L : Int), 0) := by
        unfold kept; rw [if_neg (by simp [hm]), if_neg hd48]; rfl
      have hlen := may_len hm
      have HK0 := Lib.hid hk0
      obtain ⟨R, hR⟩ : ∃ R, R = kept L d := ⟨_, rfl⟩
      rw [← hR]
      have HR := Lib.hid hR
      clear hk0 hm hR
      go_enter Try.func26, Try.ntmps26
      go_wp2_with (go_at_call 44; refine (ItemsMay_any _ L _ HI.out).mono ?_; rw [HM.out]; rintro e w1 ⟨rfl, hb1⟩)
      go_loop [7] (fun i => ∃ k : Nat, k ≤ L.length ∧ i = .int .i64 k ∧ ∀ (j : Nat) (y : It), j < k → L[j]? = some y → y.data ≠ d) (fun i => L.length - (intOf i).toNat)
      case atStart => exact ⟨0, Nat.zero_le _, rfl, fun j y hj => absurd hj (by omega)⟩
      case round =>
        obtain ⟨k, hk, rfl, hall⟩ := hrel
        have HA := Lib.hid hall
        clear hall
        by_cases hlt : k < L.length
        · obtain ⟨x, hx⟩ : ∃ x, L[k]? = some x := ⟨L[k], List.getElem?_eq_getElem hlt⟩
          obtain ⟨b, off, rfl, hbl, c0, c1, c2⟩ := HC.out k x hx
          have C0 := Lib.hid c0
          replace c0 := (hb1.cell (p := ⟨b, _, none⟩) hbl).trans c0
          replace c1 := (hb1.cell (p := ⟨b, _, none⟩) hbl).trans c1
          have HX := Lib.hid hx
          clear hx c2
          by_cases hda : x.data = d
          · have he : (x.data.toList == d.toList) = true := by rw [bytes_eq]; simpa using hda
            have hpd := posData_at HX.out hda HA.out
            have HPD := Lib.hid hpd
            clear hda hpd
            have hk1 := HK0.out
            rw [HPD.out] at hk1
            simp only [HX.out, Option.getD_some] at hk1
            rw [← HR.out] at hk1
            by_cases hu0 : (used L x.id).2 = 0
            · rw [if_neg (by simpa using hu0)] at hk1
              have ht : ((used L x.id).2 != 0) = false := by simpa using hu0
              have HK1 := Lib.hid hk1
              clear hk1 hu0
              go_wp2_with (go_at_call 48; refine (UsedOf_any _ L x.id _ (HI.out.keep hb1)).mono ?_; rintro e w2 ⟨v2, rfl, hown2⟩)
              have d0 := (hown2.below.cell (p := ⟨b, _, none⟩) (Nat.lt_of_lt_of_le hbl hb1.size)).trans c0
              go_quiet (fail)
              go_wp2
              go_ret3
              rw [HK1.out]
              exact ⟨_, rfl, (hown2.lower hb1.size hb1).drewN _⟩
            · rw [if_pos hu0] at hk1
              have ht : ((used L x.id).2 != 0) = true := by simpa using hu0
              have HK1 := Lib.hid hk1
              clear hk1 hu0
              go_wp2_with (go_at_call 48; refine (UsedOf_any _ L x.id _ (HI.out.keep hb1)).mono ?_; rintro e w2 ⟨v2, rfl, hown2⟩)
              go_ret3
              rw [HK1.out]
              exact ⟨_, rfl, OwnI.nil (below_then hb1 hown2.below) (below_then hb1 hown2.below).size⟩
          · have he : (x.data.toList == d.toList) = false := by rw [bytes_eq]; simpa using hda
            have HN : Hid (x.data ≠ d) := hda
            clear hda
            go_wp2
            go_round
            case rel => exact ⟨k + 1, by omega, by go_num, data_more HA.out HX.out HN.out⟩
            case measure => simp [intOf]; omega
        · have hpd := posData_none (L := L) (d := d) (fun j y hj => HA.out j y (by have := (List.getElem?_eq_some_iff.1 hj).1; omega) hj)
          have hk1 := HK0.out
          rw [hpd] at hk1
          have HK1 := Lib.hid hk1
          clear hpd hk1
          go_wp2
          go_loop [10] (fun i => ∃ n : Nat, n ≤ 24 ∧ i = .int .i64 n ∧ ∀ j, j < n → ∃ k, pos L (j : Int) = some k) (fun i => 25 - (intOf i).toNat)
          case atStart => exact ⟨0, Nat.zero_le _, rfl, fun j hj => absurd hj (by omega)⟩
          case round =>
            obtain ⟨n, hn24, rfl, hused⟩ := hrel
            have HUS := Lib.hid hused
            clear hused
            cases hp : pos L (n : Int) with
            | some q =>
              obtain ⟨y, hy, hyid⟩ := pos_lt hp
              have hok := may_ok HM.out hy
              have hn23 : n < 24 := by omega
              have HPI := Lib.hid (posInt_some hp)
              have HP := Lib.hid hp
              clear hp hy hyid hok
              go_wp2_with (go_at_call 46; refine (itemAt_any _ L _ _ (HI.out.keep hb1)).mono ?_; rw [HPI.out]; rintro e w2 ⟨rfl, rfl⟩)
              go_round
              case rel => exact ⟨n + 1, by omega, by go_num, used_more HUS.out HP.out⟩
              case measure => simp [intOf]; omega
            | none =>
              have hf := free_at hn24 hp HUS.out
              have HF := Lib.hid hf
              have HPI := Lib.hid (posInt_none hp)
              clear hf hp
              by_cases hn23 : 23 < n
              · have hk2 := HK1.out
                rw [if_pos (by rw [HF.out]; exact hn23), ← HR.out] at hk2
                have HK2 := Lib.hid hk2
                clear hk2
                go_wp2_with (go_at_call 46; refine (itemAt_any _ L _ _ (HI.out.keep hb1)).mono ?_; rw [HPI.out]; rintro e w2 ⟨rfl, rfl⟩)
                go_ret3
                rw [HK2.out]
                exact ⟨_, rfl, OwnI.nil hb1 hb1.size⟩
              · have hk2 := HK1.out
                rw [if_neg (by rw [HF.out]; exact hn23), ← HR.out, HF.out] at hk2
                have HK2 := Lib.hid hk2
                clear hk2
                go_wp2_with (go_at_call 46; refine (itemAt_any _ L _ _ (HI.out.keep hb1)).mono ?_; rw [HPI.out]; rintro e w2 ⟨rfl, rfl⟩)
                go_loopw [11, 12] (fun v i wr => ∃ k : Nat, k ≤ L.length ∧ i = .int .i64 k ∧ OwnI w.heap.size 78 v ((L.take k).filter (fun x => decide (x.id < (n : Int)))) w wr) (fun _ i _ => L.length - (intOf i).toNat)
                case atStart => exact ⟨0, Nat.zero_le _, rfl, OwnI.nil hb1 hb1.size⟩
                case round =>
                  obtain ⟨k, hk, rfl, hown⟩ := hrel
                  by_cases hlt : k < L.length
                  · obtain ⟨x, hx⟩ : ∃ x, L[k]? = some x := ⟨L[k], List.getElem?_eq_getElem hlt⟩
                    obtain ⟨b, off, rfl, hbl, c0, c1, c2⟩ := HC.out k x hx
                    replace c0 := (hown.below.cell (p := ⟨b, _, none⟩) hbl).trans c0
                    replace c1 := (hown.below.cell (p := ⟨b, _, none⟩) hbl).trans c1
                    replace c2 := (hown.below.cell (p := ⟨b, _, none⟩) hbl).trans c2
                    have hlen2 := Nat.le_trans (List.length_filter_le (fun x : It => decide (x.id < (n : Int))) (L.take k)) (List.length_take_le k L)
                    by_cases hxn : x.id < (n : Int)
                    · have hsn : (L.take (k + 1)).filter (fun x => decide (x.id < (n : Int))) = (L.take k).filter (fun x => decide (x.id < (n : Int))) ++ [x] := by
                        rw [take_snoc hx, List.filter_append]; simp [hxn]
                      have HSN := Lib.hid hsn
                      clear hx hsn
                      go_wp2_with (at_builtin; refine wpList_own_item rfl (.tmp 73) (.tmp 78) 22 rfl w.heap.size 78 i0 _ Try.underlying22 hi hz0 rfl hz1 hz2 _ _ rfl w _ x hown _ rfl (by simp) (by omega) ?_; intro v2 w2 hown2)
                      go_roundw
                      case rel => exact ⟨k + 1, by omega, by go_num, hown2.cast HSN.out.symm⟩
                      case measure => simp [intOf]; omega
                    · have hsn : (L.take (k + 1)).filter (fun x => decide (x.id < (n : Int))) = (L.take k).filter (fun x => decide (x.id < (n : Int))) := by
                        rw [take_snoc hx, List.filter_append]; simp [hxn]
                      have HSN := Lib.hid hsn
                      clear hx hsn
                      go_wp2
                      go_roundw
                      case rel => exact ⟨k + 1, by omega, by go_num, hown.cast HSN.out.symm⟩
                      case measure => simp [intOf]; omega
                  · have hkl : k = L.length := by omega
                    have hlen2 := Nat.le_trans (List.length_filter_le (fun x : It => decide (x.id < (n : Int))) (L.take k)) (List.length_take_le k L)
                    have hown0 := hown.cast (l' := L.filter (fun x => decide (x.id < (n : Int)))) (by rw [hkl, List.take_length])
                    have hlen3 := List.length_filter_le (fun x : It => decide (x.id < (n : Int))) L
                    clear hkl hown
                    go_wp2_with (at_builtin; refine wpList_own_item rfl (.tmp 80) (.tmp 84) 22 rfl w.heap.size 78 i0 _ Try.underlying22 hi hz0 rfl hz1 hz2 _ _ rfl w _ ⟨(n : Int), d, 1⟩ hown0 _ rfl (by simp) (by omega) ?_; intro v2 w2 hown2)
                    clear hown0
                    go_loopw [11, 13] (fun v i wr => ∃ k : Nat, k ≤ L.length ∧ i = .int .i64 k ∧ OwnI w.heap.size 78 v (L.filter (fun x => decide (x.id < (n : Int))) ++ [⟨(n : Int), d, 1⟩] ++ (L.take k).filter (fun x => decide ((n : Int) < x.id))) w wr) (fun _ i _ => L.length - (intOf i).toNat)
                    case atStart => exact ⟨0, Nat.zero_le _, rfl, hown2.cast (by simp)⟩
                    case round =>
                      clear hown2
                      obtain ⟨k, hk, rfl, hown⟩ := hrel
                      have hlen4 : (L.filter (fun x : It => decide (x.id < (n : Int))) ++ [(⟨(n : Int), d, 1⟩ : It)] ++ (L.take k).filter (fun x : It => decide ((n : Int) < x.id))).length ≤ 100 := by
                        have := List.length_filter_le (fun x : It => decide ((n : Int) < x.id)) (L.take k)
                        have := List.length_take_le k L
                        simp only [List.length_append, List.length_singleton]; omega
                      by_cases hlt : k < L.length
                      · obtain ⟨x, hx⟩ : ∃ x, L[k]? = some x := ⟨L[k], List.getElem?_eq_getElem hlt⟩
                        obtain ⟨b, off, rfl, hbl, c0, c1, c2⟩ := HC.out k x hx
                        replace c0 := (hown.below.cell (p := ⟨b, _, none⟩) hbl).trans c0
                        replace c1 := (hown.below.cell (p := ⟨b, _, none⟩) hbl).trans c1
                        replace c2 := (hown.below.cell (p := ⟨b, _, none⟩) hbl).trans c2
                        by_cases hxn : (n : Int) < x.id
                        · have hsn : (L.take (k + 1)).filter (fun x => decide ((n : Int) < x.id)) = (L.take k).filter (fun x => decide ((n : Int) < x.id)) ++ [x] := by
                            rw [take_snoc hx, List.filter_append]; simp [hxn]
                          have HSN := Lib.hid hsn
                          clear hx hsn
                          go_wp2_with (at_builtin; refine wpList_own_item rfl (.tmp 99) (.tmp 104) 22 rfl w.heap.size 78 i0 _ Try.underlying22 hi hz0 rfl hz1 hz2 _ _ rfl w _ x hown _ rfl (by simp) (by omega) ?_; intro v2 w2 hown2)
                          go_roundw
                          case rel => exact ⟨k + 1, by omega, by go_num, hown2.cast (by rw [HSN.out, List.append_assoc])⟩
                          case measure => simp [intOf]; omega
                        · have hsn : (L.take (k + 1)).filter (fun x => decide ((n : Int) < x.id)) = (L.take k).filter (fun x => decide ((n : Int) < x.id)) := by
                            rw [take_snoc hx, List.filter_append]; simp [hxn]
                          have HSN := Lib.hid hsn
                          clear hx hsn
                          go_wp2
                          go_roundw
                          case rel => exact ⟨k + 1, by omega, by go_num, hown.cast (by rw [HSN.out])⟩
                          case measure => simp [intOf]; omega
                      · have hkl : k = L.length := by omega
                        have HK := Lib.hid hkl
                        clear hkl
                        go_wp2
                        go_ret3
                        rw [HK2.out]
                        exact ⟨_, rfl, hown.cast (by rw [HK.out, List.take_length])⟩
end Go.Proofs.Ytajjhjabehiikab
