/- RepoKeeps: for every slice of items and every data, repo.Keep gives what the document's answer gives. No condition. -/
import Derived.Test.YtajgembclcgmdaaRepoKeeping
import Derived.Test.YtajgembclcgmdaaItemsOpen
import Derived.Test.YtajgembclcgmdaaSameItems
import Derived.ShutString
import Derived.Test.YtajgembclcgmdaaRefKept
namespace Go.Proofs.Ytajgembclcgmdaa.repoKeeps
open Go.ChangeShapes Go.WideShapes Go.ChangeAt Go.RowKit
open Go.ChangeMaps (open_string shut_string)
theorem used_le (L : List It) (id : Int) : (used L id).1.length ≤ L.length := by
  unfold used
  split
  · simp
  · split
    · simp
    · split <;> simp
theorem len_le (L : List It) (d : ByteArray) : (kept L d).1.length ≤ L.length + L.length + 1 := by
  unfold kept
  split
  · simp
  · split
    · simp
    · split
      · split
        · simp
        · have := used_le L (L[‹Nat›]?.getD It.zero).id
          simp only; omega
      · split
        · simp
        · have h1 := List.length_filter_le (fun x : It => decide (x.id < (freeId L : Int))) L
          have h2 := List.length_filter_le (fun x : It => decide ((freeId L : Int) < x.id)) L
          simp only [List.length_append, List.length_singleton]; omega

set_option maxRecDepth 100000 in
set_option maxHeartbeats 1000000 in
theorem walk (v : Value) (L : List It) (d : ByteArray) (w : World) (h : ItemsAt w v L) (hlen : L.length * 32 ≤ 140737488351232) :
    Calls Try.prog 7 #[v, .string d] w fun e w' => e = .returned (.bool true) ∧ Below w.heap.size w w' := by
  obtain ⟨i0, hi, hz0, hz1, hz2⟩ := info_parts Try.infoItem
  have HI := Lib.hid h
  clear h
  obtain ⟨M, m, n, hu⟩ : ∃ M m n, kept L d = (M, m, n) := ⟨_, _, _, rfl⟩
  have hM : M.length ≤ 140737488355328 := by have := len_le L d; rw [hu] at this; simp only at this; omega
  have HU := Lib.hid hu
  have HM := Lib.hid hM
  clear hu hM
  go_enter Try.func7, Try.ntmps7
  go_wp2_with (first
    | (at_builtin; refine wpList_own_items rfl (.const (.slice none 0 0)) (.tmp 12) 26 rfl w.heap.size 30 i0 _ Try.underlying26 hi hz0 rfl hz1 hz2 (.slice none 0 0) [] rfl w L _ (OwnI.nil (Below.refl _ _) (Nat.le_refl _)) HI.out rfl (by simp; omega) ?_; intro v2 w2 hown2; have HL := Lib.hid ((hown2.cast (List.nil_append L)).items (by omega)); have hb2 := hown2.below; clear hown2)
    | (go_at_call 18; refine (Keep_any _ L d _ HL.out).mono ?_; rw [HU.out]; rintro e w3 ⟨v3, rfl, hown3⟩; have hb3 := below_then hb2 hown3.below; have H3 := Lib.hid (hown3.items HM.out); clear hown3)
    | (go_at_call 19; refine (KeptOf_any _ L d _ (HI.out.keep hb3)).mono ?_; rw [HU.out]; rintro e w4 ⟨v4, rfl, hown4⟩; have hb4 := below_then hb3 hown4.below; have H4 := Lib.hid (hown4.items HM.out); have H5 := Lib.hid (H3.out.keep hown4.below); clear hown4)
    | (go_at_call 20; refine (sameItems_any _ _ _ _ H5.out H4.out).mono ?_; rintro e w5 ⟨rfl, hb5⟩))
  go_ret
  exact ⟨rfl, below_then hb4 hb5⟩

set_option maxRecDepth 100000 in
theorem lifted (os : Os) (started : os.Started) (H : Type) (enc : TypeId × Value → H) :
    ReturnsInHanded {} Try.checked os 7 .any (Rows.repoKeepsSpec.pre6 enc Try.prog Try.f7 Rows.repoKeepsRow.domain false) (Rows.repoKeepsSpec.post enc Try.prog Try.f7 false true false false) := by
  refine returnsInHanded_of_change_sized (C := Try.checked) Try.ownNone started (by kernel_rfl) Try.func7
    (ChangeSpec.witness6 (enc := enc) (C := Try.checked) false ⟨#[], #[.slice none 0 0, .string ByteArray.empty], []⟩ 8 (by kernel_rfl) (by kernel_rfl) (by kernel_rfl) (by kernel_rfl)) ?_
  intro W base args ds gs before hval0 hW hcnd hsz0 _
  have hsz : (DataW.weightsEach Try.prog (Try.f7.params.toList ++ Rows.repoKeepsSpec.plain.varTypes Try.prog) (ds ++ gs)).all (· ≤ reachBytes) = true := hsz0
  have hval : ∀ (j : Nat) t v, Try.f7.params[j]? = some t → args[j]? = some v → Value.okWide Try.prog W .any base t v := hval0
  have hW' := hW
  obtain ⟨p, q, hA0, hV, rfl, hfz, hnd⟩ := hW
  have hA : DataW.TrodAll enc Try.prog W 0 (fun _ => true) true Try.f7.params.toList args.toList ds p := hA0
  rw [Try.params7] at hA hval hsz
  obtain ⟨v0, vs0, d0, ds0, p0, q0, hargs, rfl, rfl, h0, r0⟩ := trodAll_cons hA
  obtain ⟨v1, vs1, d1, ds1, p1, q1, rfl, rfl, rfl, h1, r1⟩ := trodAll_cons r0
  obtain ⟨rfl, rfl, rfl⟩ := trodAll_nil r1
  obtain rfl : args = #[v0, v1] := by cases args; simp_all
  obtain ⟨rfl, rfl⟩ := trodVars_none hV
  obtain ⟨a0, l0, c0, rfl⟩ := okWide_slice Try.underlying26 (hval 0 26 v0 rfl rfl)
  obtain ⟨fuel, hf⟩ := h0
  obtain ⟨L, hL, _, hlen⟩ := open_items hf (fun elems spare hd => by
    subst hd
    have h := sized_slice hsz (j := 0) (t := 26) rfl rfl Try.underlying26
    rw [Try.itemBytes] at h
    exact h)
  obtain ⟨a1, rfl, rfl, rfl, _⟩ := open_string Try.underlying9 (hval 1 9 v1 rfl rfl) h1
  refine (walk _ L a1 W hL hlen).mono fun e W' ⟨he, hg⟩ => ?_
  subst he
  exact ⟨_, rfl, law_post Try.laidOut (by kernel_rfl) rfl (by kernel_rfl) Try.underlying4 rfl rfl rfl hW' hg⟩

theorem proved : Rows.RepoKeepsSaid :=
  OpenClaim.holds_of_wide 7 Try.f7 rfl rfl rfl rfl rfl rfl rfl ⟨rfl, rfl, rfl, rfl, rfl⟩ rfl rfl rfl rfl rfl (by kernel_rfl) Try.func7 (by kernel_rfl)
    (of_decide_eq_true (by kernel_rfl)) (by unfold Func.isWrapper; first | (rw [if_pos (by decide +kernel)]; kernel_rfl) | (rw [if_neg (by decide +kernel)]; exact ⟨rfl, rfl⟩))
    (fun os started H enc _ => lifted os started H enc)
#print axioms proved
end Go.Proofs.Ytajgembclcgmdaa.repoKeeps
