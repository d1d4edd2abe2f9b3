/- RepoChecks: for every slice of items, repo.Check gives what the document's answer gives. No condition. -/
import Derived.Test.YtajgembclcgmdaaRepoCheck
import Derived.Test.YtajgembclcgmdaaItemsOpen
namespace Go.Proofs.Ytajgembclcgmdaa.repoChecks
open Go.ChangeShapes Go.WideShapes Go.ChangeAt Go.RowKit

set_option maxRecDepth 100000 in
theorem walk (v : Value) (L : List It) (w : World) (h : ItemsAt w v L) :
    Calls Try.prog 5 #[v] w fun e w' => e = .returned (.bool true) ∧ Below w.heap.size w w' := by
  have HI := Lib.hid h
  clear h
  cases hm : mayB L with
  | true =>
    have hk : chk L = 0 := by unfold chk; rw [hm]; rfl
    have HK := Lib.hid hk
    have HM := Lib.hid hm
    clear hk hm
    go_enter Try.func5, Try.ntmps5
    go_wp2_with (first
      | (go_at_call 14; refine (Check_any v L _ HI.out).mono ?_; rw [HK.out]; rintro e w1 ⟨rfl, hb1⟩)
      | (go_at_call 15; refine (ItemsMay_any v L _ (HI.out.keep hb1)).mono ?_; rw [HM.out]; rintro e w2 ⟨rfl, hb2⟩))
    go_ret
    exact ⟨rfl, below_then hb1 hb2⟩
  | false =>
    have hk : chk L = 7 := by unfold chk; rw [hm]; rfl
    have HK := Lib.hid hk
    have HM := Lib.hid hm
    clear hk hm
    go_enter Try.func5, Try.ntmps5
    go_wp2_with (first
      | (go_at_call 14; refine (Check_any v L _ HI.out).mono ?_; rw [HK.out]; rintro e w1 ⟨rfl, hb1⟩)
      | (go_at_call 15; refine (ItemsMay_any v L _ (HI.out.keep hb1)).mono ?_; rw [HM.out]; rintro e w2 ⟨rfl, hb2⟩))
    go_ret
    exact ⟨rfl, below_then hb1 hb2⟩

set_option maxRecDepth 100000 in
theorem lifted (os : Os) (started : os.Started) (H : Type) (enc : TypeId × Value → H) :
    ReturnsInHanded {} Try.checked os 5 .any (Rows.repoChecksSpec.pre6 enc Try.prog Try.f5 Rows.repoChecksRow.domain false) (Rows.repoChecksSpec.post enc Try.prog Try.f5 false true false false) := by
  refine returnsInHanded_of_change_sized (C := Try.checked) Try.ownNone started (by kernel_rfl) Try.func5
    (ChangeSpec.witness6 (enc := enc) (C := Try.checked) false ⟨#[], #[.slice none 0 0], []⟩ 8 (by kernel_rfl) (by kernel_rfl) (by kernel_rfl) (by kernel_rfl)) ?_
  intro W base args ds gs before hval0 hW hcnd hsz0 _
  have hsz : (DataW.weightsEach Try.prog (Try.f5.params.toList ++ Rows.repoChecksSpec.plain.varTypes Try.prog) (ds ++ gs)).all (· ≤ reachBytes) = true := hsz0
  have hval : ∀ (j : Nat) t v, Try.f5.params[j]? = some t → args[j]? = some v → Value.okWide Try.prog W .any base t v := hval0
  have hW' := hW
  obtain ⟨p, q, hA0, hV, rfl, hfz, hnd⟩ := hW
  have hA : DataW.TrodAll enc Try.prog W 0 (fun _ => true) true Try.f5.params.toList args.toList ds p := hA0
  rw [Try.params5] at hA hval hsz
  obtain ⟨v0, vs0, d0, ds0, p0, q0, hargs, rfl, rfl, h0, r0⟩ := trodAll_cons hA
  obtain ⟨rfl, rfl, rfl⟩ := trodAll_nil r0
  obtain rfl : args = #[v0] := by cases args; simp_all
  obtain ⟨rfl, rfl⟩ := trodVars_none hV
  obtain ⟨a0, l0, c0, rfl⟩ := okWide_slice Try.underlying26 (hval 0 26 v0 rfl rfl)
  obtain ⟨fuel, hf⟩ := h0
  obtain ⟨L, hL, _, _⟩ := open_items hf (fun elems spare hd => by
    subst hd
    have h := sized_slice hsz (j := 0) (t := 26) rfl rfl Try.underlying26
    rw [Try.itemBytes] at h
    exact h)
  refine (walk _ L W hL).mono fun e W' ⟨he, hg⟩ => ?_
  subst he
  exact ⟨_, rfl, law_post Try.laidOut (by kernel_rfl) rfl (by kernel_rfl) Try.underlying4 rfl rfl rfl hW' hg⟩

theorem proved : Rows.RepoChecksSaid :=
  OpenClaim.holds_of_wide 5 Try.f5 rfl rfl rfl rfl rfl rfl rfl ⟨rfl, rfl, rfl, rfl, rfl⟩ rfl rfl rfl rfl rfl (by kernel_rfl) Try.func5 (by kernel_rfl)
    (of_decide_eq_true (by kernel_rfl)) (by unfold Func.isWrapper; first | (rw [if_pos (by decide +kernel)]; kernel_rfl) | (rw [if_neg (by decide +kernel)]; exact ⟨rfl, rfl⟩))
    (fun os started H enc _ => lifted os started H enc)
#print axioms proved
end Go.Proofs.Ytajgembclcgmdaa.repoChecks
