/- VolumeChecks: for every volume, volume.Check gives what the document's answer gives. No condition. -/
import Derived.Test.YtajjhjabehiikaaVolCheck
import Derived.Test.YtajjhjabehiikaaSameVolume
import Derived.Test.YtajjhjabehiikaaVolOpen
import Derived.Test.YtajjhjabehiikaaRefVolMay
namespace Go.Proofs.Ytajjhjabehiikaa.volumeChecks
open Go.ChangeShapes Go.WideShapes Go.ChangeAt Go.RowKit
open Go.ChangeMaps (open_string shut_string)

set_option maxRecDepth 100000 in
theorem walk (v : Value) (V : Vol) (w : World) (h : VolAt w v V) (hwz : WideZ V.blocks) (_ : V.items.length * 32 ≤ 140737488351232) (_ : V.blocks.length * 8 ≤ 140737488351232) :
    Calls Try.prog 11 #[v] w fun e w' => e = .returned (.bool true) ∧ Below w.heap.size w w' := by
  have h' := h
  obtain ⟨vi, vb, rfl, hi, hz⟩ := h'
  obtain ⟨p1, c1, rfl, _⟩ := hi
  obtain ⟨p2, c2, rfl, _⟩ := hz
  have HV := Lib.hid h
  have HWZ := Lib.hid hwz
  clear h hwz
  cases hm : volB V with
  | true =>
    have hk : vchk V = 0 := by unfold vchk; rw [hm]; rfl
    have HK := Lib.hid hk
    have HM := Lib.hid hm
    clear hk hm
    go_enter Try.func11, Try.ntmps11
    go_wp2_with (first
      | (go_at_call 32; refine (VCheck_any _ V _ (HV.out.keep (below_alloc (Below.refl _ _) _)) HWZ.out).mono ?_; rw [HK.out]; rintro e w1 ⟨rfl, hb1⟩; have hP : Past2 w _ _ _ w1 := hb1; obtain ⟨q0, q1, f0, f1, hz⟩ := hP.cells)
      | (go_at_call 33; refine (VolumeMay_any _ V _ (HV.out.keep hP.box)).mono ?_; rw [HM.out]; rintro e w2 ⟨rfl, hb2⟩))
    go_ret
    exact ⟨rfl, below_then hP.box hb2⟩
  | false =>
    have hk : vchk V = 7 := by unfold vchk; rw [hm]; rfl
    have HK := Lib.hid hk
    have HM := Lib.hid hm
    clear hk hm
    go_enter Try.func11, Try.ntmps11
    go_wp2_with (first
      | (go_at_call 32; refine (VCheck_any _ V _ (HV.out.keep (below_alloc (Below.refl _ _) _)) HWZ.out).mono ?_; rw [HK.out]; rintro e w1 ⟨rfl, hb1⟩; have hP : Past2 w _ _ _ w1 := hb1; obtain ⟨q0, q1, f0, f1, hz⟩ := hP.cells)
      | (go_at_call 33; refine (VolumeMay_any _ V _ (HV.out.keep hP.box)).mono ?_; rw [HM.out]; rintro e w2 ⟨rfl, hb2⟩))
    go_ret
    exact ⟨rfl, below_then hP.box hb2⟩

set_option maxRecDepth 100000 in
theorem lifted (os : Os) (started : os.Started) (H : Type) (enc : TypeId × Value → H) :
    ReturnsInHanded {} Try.checked os 11 .any (Rows.volumeChecksSpec.pre6 enc Try.prog Try.f11 Rows.volumeChecksRow.domain false) (Rows.volumeChecksSpec.post enc Try.prog Try.f11 false true false false) := by
  refine returnsInHanded_of_change_sized (C := Try.checked) Try.ownNone started (by kernel_rfl) Try.func11
    (ChangeSpec.witness6 (enc := enc) (C := Try.checked) false ⟨#[], #[.agg #[.slice none 0 0, .slice none 0 0]], []⟩ 8 (by kernel_rfl) (by kernel_rfl) (by kernel_rfl) (by kernel_rfl)) ?_
  intro W base args ds gs before hval0 hW hcnd hsz0 _
  have hsz : (DataW.weightsEach Try.prog (Try.f11.params.toList ++ Rows.volumeChecksSpec.plain.varTypes Try.prog) (ds ++ gs)).all (· ≤ reachBytes) = true := hsz0
  have hval : ∀ (j : Nat) t v, Try.f11.params[j]? = some t → args[j]? = some v → Value.okWide Try.prog W .any base t v := hval0
  have hW' := hW
  obtain ⟨p, q, hA0, hV, rfl, hfz, hnd⟩ := hW
  have hA : DataW.TrodAll enc Try.prog W 0 (fun _ => true) true Try.f11.params.toList args.toList ds p := hA0
  rw [Try.params11] at hA hval hsz
  obtain ⟨v0, vs0, d0, ds0, p0, q0, hargs, rfl, rfl, h0, r0⟩ := trodAll_cons hA
  obtain ⟨rfl, rfl, rfl⟩ := trodAll_nil r0
  obtain rfl : args = #[v0] := by cases args; simp_all
  obtain ⟨rfl, rfl⟩ := trodVars_none hV
  obtain ⟨cs0, rfl, hcs0⟩ := okWide_struct Try.underlying42 (hval 0 42 v0 rfl rfl)
  obtain ⟨fuel0, hf0⟩ := h0
  obtain ⟨V0, hV0, hWi0, hWz0, hBi0, hBz0⟩ := open_vol (cs := cs0) (by simpa [Value.cells] using hf0) (fun n hn => by
    have h := List.all_eq_true.1 hsz _ (DataW.weights_mem_each (j := 0) (t := 42) rfl rfl n hn)
    exact of_decide_eq_true h)
  refine (walk _ V0 W hV0 hWz0 hBi0 hBz0).mono fun e W' ⟨he, hg⟩ => ?_
  subst he
  exact ⟨_, rfl, law_post Try.laidOut (by kernel_rfl) rfl (by kernel_rfl) Try.underlying4 rfl rfl rfl hW' hg⟩

theorem proved : Rows.VolumeChecksSaid :=
  OpenClaim.holds_of_wide 11 Try.f11 rfl rfl rfl rfl rfl rfl rfl ⟨rfl, rfl, rfl, rfl, rfl⟩ rfl rfl rfl rfl rfl (by kernel_rfl) Try.func11 (by kernel_rfl)
    (of_decide_eq_true (by kernel_rfl)) (by unfold Func.isWrapper; first | (rw [if_pos (by decide +kernel)]; kernel_rfl) | (rw [if_neg (by decide +kernel)]; exact ⟨rfl, rfl⟩))
    (fun os started H enc _ => lifted os started H enc)
#print axioms proved
end Go.Proofs.Ytajjhjabehiikaa.volumeChecks
