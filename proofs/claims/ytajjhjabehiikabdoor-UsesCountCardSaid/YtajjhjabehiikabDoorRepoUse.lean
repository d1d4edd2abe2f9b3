/- repo.Use: what it returns. Condition: none but that the slice is one of items. -/
import Derived.Test.YtajjhjabehiikabDoorRepoClone
namespace Go.Proofs.YtajjhjabehiikabDoor
open Go.RowKit

set_option maxRecDepth 100000 in
set_option maxHeartbeats 1000000 in
theorem Use_any (v : Value) (L : List It) (id : Int) (w : World) (h : ItemsAt w v L) :
    Calls Tryd.prog 14 #[v, .int .i64 id] w (RetItems (used L id).1 (used L id).2 w) := by
  have HI := Lib.hid h
  clear h
  cases hm : mayB L with
  | false =>
    have hu : used L id = ([], 7) := by unfold used; rw [got_bad hm]; rfl
    have HF := Lib.hid (found_bad (id := id) hm)
    rw [hu]
    clear hu hm
    go_enter Tryd.func14, Tryd.ntmps14
    go_wp2_with (go_at_call 28; refine (find_at HF.out _ _ HI.out).mono ?_; rintro e w1 ⟨rfl, hb1⟩)
    go_ret2
    exact ⟨_, rfl, OwnI.nil hb1 hb1.size⟩
  | true =>
    cases hp : pos L id with
    | none =>
      have hu : used L id = ([], 6) := by unfold used; rw [got_none hm hp]; rfl
      have HF := Lib.hid (found_none hm hp)
      rw [hu]
      clear hu hm hp
      go_enter Tryd.func14, Tryd.ntmps14
      go_wp2_with (go_at_call 28; refine (find_at HF.out _ _ HI.out).mono ?_; rintro e w1 ⟨rfl, hb1⟩)
      go_ret2
      exact ⟨_, rfl, OwnI.nil hb1 hb1.size⟩
    | some k =>
      obtain ⟨x, hx, hxid⟩ := pos_lt hp
      have hok := may_ok hm hx
      have hlen := may_len hm
      have hg := got_some hm hp hx
      have HF := Lib.hid (found_some hm hp)
      by_cases hr : 32 ≤ x.refs
      · have hu : used L id = ([], 1) := by unfold used; rw [hg, if_neg (by simp), if_pos hr]
        rw [hu]
        have HX := Lib.hid hx
        have hr32 : x.refs = 32 := by omega
        have HR := Lib.hid hr32
        clear hu hm hp hg hx hok hr hr32
        go_enter Tryd.func14, Tryd.ntmps14
        go_wp2_with (first
          | (go_at_call 28; refine (find_at HF.out _ _ HI.out).mono ?_; rintro e w1 ⟨rfl, hb1⟩)
          | (go_at_call 27; refine (addUse_full _ L k x _ (HI.out.keep hb1) HX.out HR.out).mono ?_; rintro e w2 ⟨v2, rfl, hown2⟩))
        go_ret2
        exact ⟨_, rfl, hown2.lower hb1.size hb1⟩
      · have hu : used L id = (L.set k { x with refs := x.refs + 1 }, 0) := by unfold used; rw [hg, if_neg (by simp), if_neg hr, hp]
        rw [hu]
        have HX := Lib.hid hx
        have HR : Hid (1 ≤ x.refs ∧ x.refs < 32) := ⟨hok.2.2.2.1, by omega⟩
        clear hu hm hp hg hx hok hr
        go_enter Tryd.func14, Tryd.ntmps14
        go_wp2_with (first
          | (go_at_call 28; refine (find_at HF.out _ _ HI.out).mono ?_; rintro e w1 ⟨rfl, hb1⟩)
          | (go_at_call 27; refine (addUse_some _ L k x _ (HI.out.keep hb1) HX.out HR.out.1 HR.out.2 hlen).mono ?_; rintro e w2 ⟨v2, rfl, hown2⟩))
        go_ret2
        exact ⟨_, rfl, hown2.lower hb1.size hb1⟩
end Go.Proofs.YtajjhjabehiikabDoor
