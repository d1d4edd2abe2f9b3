/- RepoDrops: for every slice of items and every id, repo.Drop gives what the document's answer gives. No condition. -/
import Derived.Test.YtajgembclcgmdaaRepoDrop
import Derived.Test.YtajgembclcgmdaaItemsOpen
import Derived.Test.YtajgembclcgmdaaSameItems
namespace Go.Proofs.Ytajgembclcgmdaa.repoDrops
open Go.ChangeShapes Go.WideShapes Go.ChangeAt Go.RowKit

theorem len_le (L : List It) (id : Int) : (dropped L id).1.length ≤ L.length := by
  unfold dropped
  split
  · simp
  · exact fm_len _ _

set_option maxRecDepth 100000 in
set_option maxHeartbeats 1000000 in
theorem walk (v : Value) (L : List It) (id : Int) (w : World) (h : ItemsAt w v L) (hlen : L.length * 32 ≤ 140737488351232) :
    Calls Try.prog 9 #[v, .int .i64 id] w fun e w' => e = .returned (.bool true) ∧ Below w.heap.size w w' := by
  obtain ⟨i0, hi, hz0, hz1, hz2⟩ := info_parts Try.infoItem
  have HI := Lib.hid h
  clear h
  obtain ⟨M, n, hu⟩ : ∃ M n, dropped L id = (M, n) := ⟨_, _, rfl⟩
  have hM : M.length ≤ 140737488355328 := by have := len_le L id; rw [hu] at this; simp only at this; omega
  have HU := Lib.hid hu
  have HM := Lib.hid hM
  clear hu hM
  go_enter Try.func9, Try.ntmps9
  go_wp2_with (first
    | (at_builtin; refine wpList_own_items rfl (.const (.slice none 0 0)) (.tmp 10) 26 rfl w.heap.size 30 i0 _ Try.underlying26 hi hz0 rfl hz1 hz2 (.slice none 0 0) [] rfl w L _ (OwnI.nil (Below.refl _ _) (Nat.le_refl _)) HI.out rfl (by simp; omega) ?_; intro v2 w2 hown2; have HL := Lib.hid ((hown2.cast (List.nil_append L)).items (by omega)); have hb2 := hown2.below; clear hown2)
    | (go_at_call 23; refine (Drop_any _ L id _ HL.out).mono ?_; rw [HU.out]; rintro e w3 ⟨v3, rfl, hown3⟩; have hb3 := below_then hb2 hown3.below; have H3 := Lib.hid (hown3.items HM.out); clear hown3)
    | (go_at_call 24; refine (DroppedOf_any _ L id _ (HI.out.keep hb3)).mono ?_; rw [HU.out]; rintro e w4 ⟨v4, rfl, hown4⟩; have hb4 := below_then hb3 hown4.below; have H4 := Lib.hid (hown4.items HM.out); have H5 := Lib.hid (H3.out.keep hown4.below); clear hown4)
    | (go_at_call 20; refine (sameItems_any _ _ _ _ H5.out H4.out).mono ?_; rintro e w5 ⟨rfl, hb5⟩))
  go_ret
  exact ⟨rfl, below_then hb4 hb5⟩

set_option maxRecDepth 100000 in
theorem lifted (os : Os) (started : os.Started) (H : Type) (enc : TypeId × Value → H) :
    ReturnsInHanded {} Try.checked os 9 .any (Rows.repoDropsSpec.pre6 enc Try.prog Try.f9 Rows.repoDropsRow.domain false) (Rows.repoDropsSpec.post enc Try.prog Try.f9 false true false false) := by
  refine returnsInHanded_of_change_sized (C := Try.checked) Try.ownNone started (by kernel_rfl) Try.func9
    (ChangeSpec.witness6 (enc := enc) (C := Try.checked) false ⟨#[], #[.slice none 0 0, .int .i64 0], []⟩ 8 (by kernel_rfl) (by kernel_rfl) (by kernel_rfl) (by kernel_rfl)) ?_
  intro W base args ds gs before hval0 hW hcnd hsz0 _
  have hsz : (DataW.weightsEach Try.prog (Try.f9.params.toList ++ Rows.repoDropsSpec.plain.varTypes Try.prog) (ds ++ gs)).all (· ≤ reachBytes) = true := hsz0
  have hval : ∀ (j : Nat) t v, Try.f9.params[j]? = some t → args[j]? = some v → Value.okWide Try.prog W .any base t v := hval0
  have hW' := hW
  obtain ⟨p, q, hA0, hV, rfl, hfz, hnd⟩ := hW
  have hA : DataW.TrodAll enc Try.prog W 0 (fun _ => true) true Try.f9.params.toList args.toList ds p := hA0
  rw [Try.params9] at hA hval hsz
  obtain ⟨v0, vs0, d0, ds0, p0, q0, hargs, rfl, rfl, h0, r0⟩ := trodAll_cons hA
  obtain ⟨v1, vs1, d1, ds1, p1, q1, rfl, rfl, rfl, h1, r1⟩ := trodAll_cons r0
  obtain ⟨rfl, rfl, rfl⟩ := trodAll_nil r1
  obtain rfl : args = #[v0, v1] := by cases args; simp_all
  obtain ⟨rfl, rfl⟩ := trodVars_none hV
  obtain ⟨a0, l0, c0, rfl⟩ := okWide_slice Try.underlying26 (hval 0 26 v0 rfl rfl)
  obtain ⟨fuel, hf⟩ := h0
  obtain ⟨L, hL, _, hlen⟩ := open_items hf (fun elems spare hd => by
    subst hd
    have h := sized_slice hsz (j := 0) (t := 26) rfl rfl Try.underlying26
    rw [Try.itemBytes] at h
    exact h)
  obtain ⟨a1, rfl, rfl, rfl, _⟩ := open_int Try.underlying3 (hval 1 3 v1 rfl rfl) h1
  refine (walk _ L a1 W hL hlen).mono fun e W' ⟨he, hg⟩ => ?_
  subst he
  exact ⟨_, rfl, law_post Try.laidOut (by kernel_rfl) rfl (by kernel_rfl) Try.underlying4 rfl rfl rfl hW' hg⟩

theorem proved : Rows.RepoDropsSaid :=
  OpenClaim.holds_of_wide 9 Try.f9 rfl rfl rfl rfl rfl rfl rfl ⟨rfl, rfl, rfl, rfl, rfl⟩ rfl rfl rfl rfl rfl (by kernel_rfl) Try.func9 (by kernel_rfl)
    (of_decide_eq_true (by kernel_rfl)) (by unfold Func.isWrapper; first | (rw [if_pos (by decide +kernel)]; kernel_rfl) | (rw [if_neg (by decide +kernel)]; exact ⟨rfl, rfl⟩))
    (fun os started H enc _ => lifted os started H enc)
#print axioms proved
end Go.Proofs.Ytajgembclcgmdaa.repoDrops
