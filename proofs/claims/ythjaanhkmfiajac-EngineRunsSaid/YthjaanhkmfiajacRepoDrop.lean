/- repo.Drop: what it returns. Condition: none but that the slice is one of items. -/
import Derived.Test.YthjaanhkmfiajacRepoClone
import Derived.Test.YthjaanhkmfiajacPure
import Derived.Test.YthjaanhkmfiajacItemsDelete
namespace Go.Proofs.Ythjaanhkmfiajac
open Go.RowKit

theorem Delete_succ (B g cap n : Nat) (M : List It) (k : Nat) (W0 w : World) (hn : n = M.length) (h : OwnI B 55 (.slice (some ⟨g, 0, none⟩) n cap) M W0 w) (hk : k < n) (hlen : n ≤ 24) :
    Calls Try.prog 82 #[.slice (some ⟨g, 0, none⟩) n cap, .int .i64 (k : Int), .int .i64 ((k : Int) + 1)] w fun e w' => ∃ v', e = .returned v' ∧ OwnI B 55 v' (M.take k ++ M.drop (k + 1)) W0 w' := by
  subst hn
  have e : ((k + 1 : Nat) : Int) = (k : Int) + 1 := by omega
  rw [← e]
  exact Delete_any B g cap M k (k + 1) W0 w h hk rfl hlen

set_option maxRecDepth 100000 in
set_option maxHeartbeats 2000000 in
theorem Drop_any (v : Value) (L : List It) (id : Int) (w : World) (h : ItemsAt w v L) :
    Calls Try.prog 73 #[v, .int .i64 id] w (RetItems (dropped L id).1 (dropped L id).2 w) := by
  have HI := Lib.hid h
  clear h
  cases hm : mayB L with
  | false =>
    have hu : dropped L id = ([], 7) := by unfold dropped; rw [got_bad hm]; rfl
    have HF := Lib.hid (found_bad (id := id) hm)
    rw [hu]
    clear hu hm
    go_enter Try.func73, Try.ntmps73
    go_wp2_with (go_at_call 72; refine (find_at HF.out _ _ HI.out).mono ?_; rintro e w1 ⟨rfl, hb1⟩)
    go_ret2
    exact ⟨_, rfl, OwnI.nil hb1 hb1.size⟩
  | true =>
    cases hp : pos L id with
    | none =>
      have hu : dropped L id = ([], 6) := by unfold dropped; rw [got_none hm hp]; rfl
      have HF := Lib.hid (found_none hm hp)
      rw [hu]
      clear hu hm hp
      go_enter Try.func73, Try.ntmps73
      go_wp2_with (go_at_call 72; refine (find_at HF.out _ _ HI.out).mono ?_; rintro e w1 ⟨rfl, hb1⟩)
      go_ret2
      exact ⟨_, rfl, OwnI.nil hb1 hb1.size⟩
    | some k =>
      obtain ⟨x, hx, hxid⟩ := pos_lt hp
      have hok := may_ok hm hx
      have hlen := may_len hm
      have hg := got_some hm hp hx
      have HF := Lib.hid (found_some hm hp)
      have hk := (List.getElem?_eq_some_iff.1 hx).1
      have hu : dropped L id = (L.take k ++ (dropOne id x).toList ++ L.drop (k + 1), 0) := by unfold dropped; rw [hg, if_neg (by simp), drop_split hm hx hxid]
      rw [hu]
      have HX := Lib.hid hx
      have hr1 : 1 ≤ x.refs := hok.2.2.2.1
      have hr2 : x.refs ≤ 32 := hok.2.2.2.2
      have hw := IntWalk.i64_in (x.refs - 1) (by omega)
      have hw2 := IntWalk.i64_in ((k : Int) + 1) (by omega)
      have HID := Lib.hid hxid
      have hsz : L.length * 32 ≤ 140737488355328 := by omega
      clear hu hm hp hg hx hok hxid
      by_cases hr : x.refs = 1
      · have hfin : L.take k ++ (dropOne id x).toList ++ L.drop (k + 1) = (L.set k { x with refs := x.refs - 1 }).take k ++ (L.set k { x with refs := x.refs - 1 }).drop (k + 1) := by
          unfold dropOne
          rw [if_pos HID.out, if_neg (by omega), List.take_set_of_le (Nat.le_refl _), List.drop_set_of_lt (by omega)]
          simp
        have HFIN := Lib.hid hfin
        have ht : (x.refs - 1 == 0) = true := by have : x.refs - 1 = 0 := by omega
                                                 simpa using this
        clear hfin hr
        go_enter Try.func73, Try.ntmps73
        go_wp2_with (first
          | (go_at_call 72; refine (find_at HF.out _ _ HI.out).mono ?_; rintro e w1 ⟨rfl, hb1⟩)
          | (go_at_call 17; refine (Clone_any _ L _ (HI.out.keep hb1) hsz).mono ?_; rintro e w2 ⟨v2, rfl, hown2⟩; obtain ⟨g, cap2, rfl, hg1, hg2, hcap⟩ := hown2.shape (by omega); obtain ⟨d0, d1, d2, df, _⟩ := hown2.cell HX.out; have hown3 := hown2.setRefs HX.out (x.refs - 1); have HOWN := Lib.hid (hown3.lower hb1.size hb1); clear hown2 hown3)
          | (go_at_call 82; refine (Delete_succ _ g cap2 L.length _ k w _ (by simp) HOWN.out hk hlen).mono ?_; rintro e w4 ⟨v4, rfl, hown4⟩))
        go_ret2
        rw [HFIN.out]
        exact ⟨_, rfl, hown4⟩
      · have hfin : L.take k ++ (dropOne id x).toList ++ L.drop (k + 1) = L.set k { x with refs := x.refs - 1 } := by
          unfold dropOne
          rw [if_pos HID.out, if_pos (by omega), List.set_eq_take_append_cons_drop, if_pos hk]
          simp
        have HFIN := Lib.hid hfin
        have ht : (x.refs - 1 == 0) = false := by have : x.refs - 1 ≠ 0 := by omega
                                                  simpa using this
        clear hfin hr
        go_enter Try.func73, Try.ntmps73
        go_wp2_with (first
          | (go_at_call 72; refine (find_at HF.out _ _ HI.out).mono ?_; rintro e w1 ⟨rfl, hb1⟩)
          | (go_at_call 17; refine (Clone_any _ L _ (HI.out.keep hb1) hsz).mono ?_; rintro e w2 ⟨v2, rfl, hown2⟩; obtain ⟨g, cap2, rfl, hg1, hg2, hcap⟩ := hown2.shape (by omega); obtain ⟨d0, d1, d2, df, _⟩ := hown2.cell HX.out; have hown3 := hown2.setRefs HX.out (x.refs - 1); have HOWN := Lib.hid (hown3.lower hb1.size hb1); clear hown2 hown3))
        go_ret2
        rw [HFIN.out]
        exact ⟨_, rfl, HOWN.out⟩
end Go.Proofs.Ythjaanhkmfiajac
