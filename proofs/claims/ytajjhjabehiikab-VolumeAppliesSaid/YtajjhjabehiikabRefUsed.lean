/- The document's UsedOf and DroppedOf: what they return. Condition: none but that the slice is one of items. -/
import Derived.Test.YtajjhjabehiikabRefGot
import Derived.Test.YtajjhjabehiikabUsedMath
import Derived.StillTailTactics
namespace Go.Proofs.Ytajjhjabehiikab
open Go.RowKit

set_option maxRecDepth 100000 in
set_option maxHeartbeats 1000000 in
theorem UsedOf_any (v : Value) (L : List It) (id : Int) (w : World) (h : ItemsAt w v L) :
    Calls Try.prog 48 #[v, .int .i64 id] w (RetItems (used L id).1 (used L id).2 w) := by
  obtain ⟨i0, hi, hz0, hz1, hz2⟩ := info_parts Try.infoItem
  have h' := h
  obtain ⟨p, cap, rfl, hl, _, hc⟩ := h'
  have HI := Lib.hid h
  clear hc h
  rcases got_cases L id with ⟨n, hn, hg⟩ | ⟨k, x, hx, hp, hm, hg⟩
  · have hu : used L id = ([], n) := by unfold used; rw [hg, if_pos (by simpa using hn)]
    have HU := Lib.hid hu
    have HG := Lib.hid hg
    rw [hu]
    clear hu hg
    go_enter Try.func48, Try.ntmps48
    go_wp2_with (go_at_call 47; refine (GotOf_err HG.out _ _ HI.out).mono ?_; rintro e w1 ⟨rfl, hb1⟩)
    go_ret2
    exact ⟨_, rfl, OwnI.nil (below_alloc hb1 _) (below_alloc hb1 _).size⟩
  · by_cases hr : 32 ≤ x.refs
    · have hu : used L id = ([], 1) := by unfold used; rw [hg, if_neg (by simp), if_pos hr]
      have HG := Lib.hid hg
      rw [hu]
      clear hu hg hx hp hm
      go_enter Try.func48, Try.ntmps48
      go_wp2_with (go_at_call 47; refine (GotOf_at HG.out _ _ HI.out).mono ?_; rintro e w1 ⟨rfl, hb1⟩)
      go_ret2
      exact ⟨_, rfl, OwnI.nil (below_alloc hb1 _) (below_alloc hb1 _).size⟩
    · have hu : used L id = (L.set k { x with refs := x.refs + 1 }, 0) := by unfold used; rw [hg, if_neg (by simp), if_neg hr, hp]
      have HG := Lib.hid hg
      have HP := Lib.hid (posInt_some hp)
      have hlen := may_len hm
      have hk := (List.getElem?_eq_some_iff.1 hx).1
      have hok := may_ok hm hx
      have hr1 : 1 ≤ x.refs := hok.2.2.2.1
      have HX := Lib.hid hx
      rw [hu]
      clear hu hg hx hp hm hok
      go_enter Try.func48, Try.ntmps48
      go_wp2_with (first
        | (go_at_call 47; refine (GotOf_at HG.out _ _ HI.out).mono ?_; rintro e w1 ⟨rfl, hb1⟩)
        | (at_builtin; refine wpList_own_items rfl _ _ 22 rfl (w1.alloc _).heap.size 78 i0 _ Try.underlying22 hi hz0 rfl hz1 hz2 (.slice none 0 0) [] rfl _ L _ (OwnI.nil (Below.refl _ _) (Nat.le_refl _)) (HI.out.keep (below_alloc hb1 _)) rfl (by simp; omega) ?_; intro v2 w2 hown2))
      rw [List.nil_append] at hown2
      obtain ⟨q0, q1, q2, f0, f1, f2, hz⟩ := blk3 hown2.below
      obtain ⟨g, cap2, rfl, hg1, hg2, hcap⟩ := hown2.shape (by omega)
      obtain ⟨d0, d1, d2, df, _⟩ := hown2.cell HX.out
      have hitems := HI.out.keep (below_then (below_alloc hb1 _) hown2.below).drew
      have hcall : Calls Try.prog 46 #[.slice p L.length cap, .int .i64 id] w2.drew (fun e w'' => e = .returned (.int .i64 (k : Int)) ∧ w'' = w2.drew) := (itemAt_any _ L id _ hitems).mono fun e w' he => ⟨by rw [← HP.out]; exact he.1, he.2.symm⟩
      have hw := IntWalk.i64_in (x.refs + 1) (by omega)
      refine wp_region_still_tail 9 (by kernel_rfl) (by kernel_rfl) ?_
      simp only [List.take_succ_cons, List.take_zero, List.drop_succ_cons, List.drop_zero]
      still_step
      still_step
      still_step
      still_call hcall
      still_step
      still_step
      still_step
      still_step
      still_step
      refine wpStill_nil ?_
      have hfin := ((hown2.setRefs HX.out (x.refs + 1)).lower (by simp; have := hb1.size; omega) (below_alloc hb1 _)).drew
      clear hw hcall hitems hown2
      go_wp2
      go_ret2
      exact ⟨_, rfl, hfin⟩

set_option maxRecDepth 100000 in
set_option maxHeartbeats 1000000 in
theorem DroppedOf_any (v : Value) (L : List It) (id : Int) (w : World) (h : ItemsAt w v L) :
    Calls Try.prog 25 #[v, .int .i64 id] w (RetItems (dropped L id).1 (dropped L id).2 w) := by
  obtain ⟨i0, hi, hz0, hz1, hz2⟩ := info_parts Try.infoItem
  have h' := h
  obtain ⟨p, cap, rfl, hl, _, hc⟩ := h'
  have HI := Lib.hid h
  have HC := Lib.hid hc
  clear hc h
  rcases got_cases L id with ⟨n, hn, hg⟩ | ⟨k0, x0, hx0, hp, hm, hg⟩
  · have hu : dropped L id = ([], n) := by unfold dropped; rw [hg, if_pos (by simpa using hn)]
    have HG := Lib.hid hg
    rw [hu]
    clear hu hg
    go_enter Try.func25, Try.ntmps25
    go_wp2_with (go_at_call 47; refine (GotOf_err HG.out _ _ HI.out).mono ?_; rintro e w1 ⟨rfl, hb1⟩)
    go_ret2
    exact ⟨_, rfl, OwnI.nil (below_alloc hb1 _) (below_alloc hb1 _).size⟩
  · have hu : dropped L id = (L.filterMap (dropOne id), 0) := by unfold dropped; rw [hg, if_neg (by simp)]
    have HG := Lib.hid hg
    have hlen := may_len hm
    have HM := Lib.hid hm
    rw [hu]
    clear hu hg hx0 hp hm
    go_enter Try.func25, Try.ntmps25
    go_wp2_with (go_at_call 47; refine (GotOf_at HG.out _ _ HI.out).mono ?_; rintro e w1 ⟨rfl, hb1⟩)
    go_loopw [8, 9] (fun v i wr => ∃ k : Nat, k ≤ L.length ∧ i = .int .i64 k ∧ OwnI w.heap.size 78 v ((L.take k).filterMap (dropOne id)) w wr) (fun _ i _ => L.length - (intOf i).toNat)
    case atStart => exact ⟨0, Nat.zero_le _, rfl, OwnI.nil (below_alloc hb1 _) (below_alloc hb1 _).size⟩
    case round =>
      obtain ⟨k, hk, rfl, hown⟩ := hrel
      by_cases hlt : k < L.length
      · obtain ⟨x, hx⟩ : ∃ x, L[k]? = some x := ⟨L[k], List.getElem?_eq_getElem hlt⟩
        obtain ⟨b, off, rfl, hbl, c0, c1, c2⟩ := HC.out k x hx
        have hok := may_ok HM.out hx
        have hr1 : 1 ≤ x.refs := hok.2.2.2.1
        have hr2 : x.refs ≤ 32 := hok.2.2.2.2
        replace c0 := (hown.below.cell (p := ⟨b, _, none⟩) hbl).trans c0
        replace c1 := (hown.below.cell (p := ⟨b, _, none⟩) hbl).trans c1
        replace c2 := (hown.below.cell (p := ⟨b, _, none⟩) hbl).trans c2
        have hlen2 := Nat.le_trans (fm_len (dropOne id) (L.take k)) (List.length_take_le k L)
        have hsn : (L.take (k + 1)).filterMap (dropOne id) = (L.take k).filterMap (dropOne id) ++ (dropOne id x).toList := by
          rw [take_snoc hx, List.filterMap_append]; cases hd : dropOne id x <;> simp [hd]
        have HSN := Lib.hid hsn
        clear hx hok hsn
        by_cases hid : x.id = id
        · have ht : (x.id == id) = true := by simpa using hid
          by_cases hr : 0 < x.refs - 1
          · have hd : dropOne id x = some { x with refs := x.refs - 1 } := by unfold dropOne; rw [if_pos hid, if_pos hr]
            have HD := Lib.hid hd
            clear hid hd
            go_wp2_with (at_builtin; refine wpList_own_item rfl (.tmp 41) (.tmp 43) 22 rfl w.heap.size 78 i0 _ Try.underlying22 hi hz0 rfl hz1 hz2 _ _ rfl w _ { x with refs := x.refs - 1 } (hown.alloc _) _ rfl (by simp) (by omega) ?_; intro v2 w2 hown2)
            go_roundw
            case rel => exact ⟨k + 1, by omega, by go_num, hown2.cast (by rw [HSN.out, HD.out]; rfl)⟩
            case measure => simp [intOf]; omega
          · have hd : dropOne id x = none := by unfold dropOne; rw [if_pos hid, if_neg hr]
            have HD := Lib.hid hd
            clear hid hd
            go_wp2
            go_roundw
            case rel => exact ⟨k + 1, by omega, by go_num, (hown.alloc _).cast (by rw [HSN.out, HD.out]; simp)⟩
            case measure => simp [intOf]; omega
        · have ht : (x.id == id) = false := by simpa using hid
          have hd : dropOne id x = some x := by unfold dropOne; rw [if_neg hid, if_pos (by omega)]
          have HD := Lib.hid hd
          clear hid hd
          go_wp2_with (at_builtin; refine wpList_own_item rfl (.tmp 41) (.tmp 43) 22 rfl w.heap.size 78 i0 _ Try.underlying22 hi hz0 rfl hz1 hz2 _ _ rfl w _ x (hown.alloc _) _ rfl (by simp) (by omega) ?_; intro v2 w2 hown2)
          go_roundw
          case rel => exact ⟨k + 1, by omega, by go_num, hown2.cast (by rw [HSN.out, HD.out]; rfl)⟩
          case measure => simp [intOf]; omega
      · have hkl : k = L.length := by omega
        have HK := Lib.hid hkl
        clear hkl
        go_wp2
        go_ret2
        exact ⟨_, rfl, hown.cast (by rw [HK.out, List.take_length])⟩
end Go.Proofs.Ytajjhjabehiikab
