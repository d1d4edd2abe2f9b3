/- VolumeNews: for every number of blocks, volume.New gives what the document's answer gives. No condition. -/
import Derived.Test.YtajjhjabehiikaaVolNew
import Derived.Test.YtajjhjabehiikaaSameVolume
import Derived.Test.YtajjhjabehiikaaVolOpen
import Derived.Test.YtajjhjabehiikaaRefVolOf
namespace Go.Proofs.Ytajjhjabehiikaa.volumeNews
open Go.ChangeShapes Go.WideShapes Go.ChangeAt Go.RowKit
open Go.ChangeMaps (open_string shut_string)

set_option maxRecDepth 100000 in
theorem walk (a : Int) (w : World) (ha : -9223372036854775808 ≤ a ∧ a ≤ 9223372036854775807) :
    Calls Try.prog 10 #[.int .i64 a] w fun e w' => e = .returned (.bool true) ∧ Below w.heap.size w w' := by
  obtain ⟨V, n, hn⟩ : ∃ V n, newOf a = (V, n) := ⟨_, _, rfl⟩
  have hl : V.items.length ≤ 100 ∧ V.blocks.length ≤ 100 := by
    have e1 : V = (newOf a).1 := by rw [hn]
    rw [e1]
    unfold newOf
    split
    · simp only [newV, List.length_nil, List.length_replicate]; omega
    · simp
  have HN := Lib.hid hn
  have HL := Lib.hid hl
  clear hn hl ha
  go_enter Try.func10, Try.ntmps10
  go_wp2_with (first
    | (go_at_call 29; refine (VNew_any a _).mono ?_; rw [HN.out]; dsimp only; rintro e w1 ⟨vi, vb, rfl, hown⟩; obtain ⟨p1, c1, rfl⟩ := hown.1.isSlice; obtain ⟨p2, c2, rfl⟩ := hown.2.1.isSlice; have hb1 := hown.below; have H1 := Lib.hid (hown.vol (by have := HL.out.1; omega) (by have := HL.out.2; omega)); clear hown)
    | (go_at_call 30; refine (VolumeOf_any a _).mono ?_; rw [HN.out]; dsimp only; rintro e w2 ⟨vi2, vb2, rfl, hown2⟩; obtain ⟨q1, d1, rfl⟩ := hown2.1.isSlice; obtain ⟨q2, d2, rfl⟩ := hown2.2.1.isSlice; obtain ⟨b0, b1, e0, e1, hz⟩ := blk2 hown2.below; have hb2 := below_then (below_alloc hb1 _) hown2.below; have H2 := Lib.hid (hown2.vol (by have := HL.out.1; omega) (by have := HL.out.2; omega)); have H3 := Lib.hid (H1.out.keep (below_then (below_alloc (Below.refl _ _) _) hown2.below)); clear hown2)
    | (go_at_call 31; refine (sameVolume_any _ _ V _ (H3.out.keep (below_alloc (Below.refl _ _) _)) (H2.out.keep (below_alloc (Below.refl _ _) _))).mono ?_; rintro e w5 ⟨rfl, hb5⟩))
  go_ret
  exact ⟨rfl, below_then (below_alloc hb2 _) hb5⟩

set_option maxRecDepth 100000 in
theorem lifted (os : Os) (started : os.Started) (H : Type) (enc : TypeId × Value → H) :
    ReturnsInHanded {} Try.checked os 10 .any (Rows.volumeNewsSpec.pre6 enc Try.prog Try.f10 Rows.volumeNewsRow.domain false) (Rows.volumeNewsSpec.post enc Try.prog Try.f10 false true false false) := by
  refine returnsInHanded_of_change_sized (C := Try.checked) Try.ownNone started (by kernel_rfl) Try.func10
    (ChangeSpec.witness6 (enc := enc) (C := Try.checked) false ⟨#[], #[.int .i64 0], []⟩ 8 (by kernel_rfl) (by kernel_rfl) (by kernel_rfl) (by kernel_rfl)) ?_
  intro W base args ds gs before hval0 hW hcnd hsz0 _
  have hsz : (DataW.weightsEach Try.prog (Try.f10.params.toList ++ Rows.volumeNewsSpec.plain.varTypes Try.prog) (ds ++ gs)).all (· ≤ reachBytes) = true := hsz0
  have hval : ∀ (j : Nat) t v, Try.f10.params[j]? = some t → args[j]? = some v → Value.okWide Try.prog W .any base t v := hval0
  have hW' := hW
  obtain ⟨p, q, hA0, hV, rfl, hfz, hnd⟩ := hW
  have hA : DataW.TrodAll enc Try.prog W 0 (fun _ => true) true Try.f10.params.toList args.toList ds p := hA0
  rw [Try.params10] at hA hval hsz
  obtain ⟨v0, vs0, d0, ds0, p0, q0, hargs, rfl, rfl, h0, r0⟩ := trodAll_cons hA
  obtain ⟨rfl, rfl, rfl⟩ := trodAll_nil r0
  obtain rfl : args = #[v0] := by cases args; simp_all
  obtain ⟨rfl, rfl⟩ := trodVars_none hV
  obtain ⟨a0, rfl, rfl, rfl, wf0⟩ := open_int Try.underlying3 (hval 0 3 v0 rfl rfl) h0
  refine (walk a0 W (i64_bd wf0)).mono fun e W' ⟨he, hg⟩ => ?_
  subst he
  exact ⟨_, rfl, law_post Try.laidOut (by kernel_rfl) rfl (by kernel_rfl) Try.underlying4 rfl rfl rfl hW' hg⟩

theorem proved : Rows.VolumeNewsSaid :=
  OpenClaim.holds_of_wide 10 Try.f10 rfl rfl rfl rfl rfl rfl rfl ⟨rfl, rfl, rfl, rfl, rfl⟩ rfl rfl rfl rfl rfl (by kernel_rfl) Try.func10 (by kernel_rfl)
    (of_decide_eq_true (by kernel_rfl)) (by unfold Func.isWrapper; first | (rw [if_pos (by decide +kernel)]; kernel_rfl) | (rw [if_neg (by decide +kernel)]; exact ⟨rfl, rfl⟩))
    (fun os started H enc _ => lifted os started H enc)
#print axioms proved
end Go.Proofs.Ytajjhjabehiikaa.volumeNews
