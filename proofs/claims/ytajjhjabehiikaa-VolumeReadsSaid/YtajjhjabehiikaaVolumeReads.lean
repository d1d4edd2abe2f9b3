/- VolumeReads: for every volume and number, volume.Read gives what the document's answer gives. No condition. -/
import Derived.Test.YtajjhjabehiikaaVolRead
import Derived.Test.YtajjhjabehiikaaSameVolume
import Derived.Test.YtajjhjabehiikaaVolOpen
import Derived.Test.YtajjhjabehiikaaRefVolRead
namespace Go.Proofs.Ytajjhjabehiikaa.volumeReads
open Go.ChangeShapes Go.WideShapes Go.ChangeAt Go.RowKit
open Go.ChangeMaps (open_string shut_string)

set_option maxRecDepth 100000 in
theorem walk (v : Value) (V : Vol) (a : Int) (w : World) (h : VolAt w v V) (hwz : WideZ V.blocks) (_ : V.items.length * 32 ≤ 140737488351232) (_ : V.blocks.length * 8 ≤ 140737488351232) (ha : -9223372036854775808 ≤ a ∧ a ≤ 9223372036854775807) :
    Calls Try.prog 13 #[v, .int .i64 a] w fun e w' => e = .returned (.bool true) ∧ Below w.heap.size w w' := by
  have h' := h
  obtain ⟨vi, vb, rfl, hi, hz⟩ := h'
  obtain ⟨p1, c1, rfl, _⟩ := hi
  obtain ⟨p2, c2, rfl, _⟩ := hz
  have HV := Lib.hid h
  have HA := Lib.hid ha
  have HWZ := Lib.hid hwz
  obtain ⟨d, n, hr⟩ : ∃ d n, readOf V a = (d, n) := ⟨_, _, rfl⟩
  have HR := Lib.hid hr
  clear h hr ha hwz
  go_enter Try.func13, Try.ntmps13
  go_wp2_with (first
    | (go_at_call 35; refine (VRead_any _ V a HA.out _ (HV.out.keep (below_alloc (Below.refl _ _) _)) HWZ.out).mono ?_; rw [HR.out]; rintro e w1 ⟨rfl, hb1⟩; have hP : Past2 w _ _ _ w1 := hb1; obtain ⟨q0, q1, f0, f1, hz⟩ := hP.cells)
    | (go_at_call 36; refine (ReadOf_any _ V a HA.out _ (HV.out.keep hP.box)).mono ?_; rw [HR.out]; rintro e w2 ⟨rfl, hb2⟩))
  go_ret
  exact ⟨rfl, below_then hP.box hb2⟩

set_option maxRecDepth 100000 in
theorem lifted (os : Os) (started : os.Started) (H : Type) (enc : TypeId × Value → H) :
    ReturnsInHanded {} Try.checked os 13 .any (Rows.volumeReadsSpec.pre6 enc Try.prog Try.f13 Rows.volumeReadsRow.domain false) (Rows.volumeReadsSpec.post enc Try.prog Try.f13 false true false false) := by
  refine returnsInHanded_of_change_sized (C := Try.checked) Try.ownNone started (by kernel_rfl) Try.func13
    (ChangeSpec.witness6 (enc := enc) (C := Try.checked) false ⟨#[], #[.agg #[.slice none 0 0, .slice none 0 0], .int .i64 0], []⟩ 8 (by kernel_rfl) (by kernel_rfl) (by kernel_rfl) (by kernel_rfl)) ?_
  intro W base args ds gs before hval0 hW hcnd hsz0 _
  have hsz : (DataW.weightsEach Try.prog (Try.f13.params.toList ++ Rows.volumeReadsSpec.plain.varTypes Try.prog) (ds ++ gs)).all (· ≤ reachBytes) = true := hsz0
  have hval : ∀ (j : Nat) t v, Try.f13.params[j]? = some t → args[j]? = some v → Value.okWide Try.prog W .any base t v := hval0
  have hW' := hW
  obtain ⟨p, q, hA0, hV, rfl, hfz, hnd⟩ := hW
  have hA : DataW.TrodAll enc Try.prog W 0 (fun _ => true) true Try.f13.params.toList args.toList ds p := hA0
  rw [Try.params13] at hA hval hsz
  obtain ⟨v0, vs0, d0, ds0, p0, q0, hargs, rfl, rfl, h0, r0⟩ := trodAll_cons hA
  obtain ⟨v1, vs1, d1, ds1, p1, q1, rfl, rfl, rfl, h1, r1⟩ := trodAll_cons r0
  obtain ⟨rfl, rfl, rfl⟩ := trodAll_nil r1
  obtain rfl : args = #[v0, v1] := by cases args; simp_all
  obtain ⟨rfl, rfl⟩ := trodVars_none hV
  obtain ⟨cs0, rfl, hcs0⟩ := okWide_struct Try.underlying42 (hval 0 42 v0 rfl rfl)
  obtain ⟨fuel0, hf0⟩ := h0
  obtain ⟨V0, hV0, hWi0, hWz0, hBi0, hBz0⟩ := open_vol (cs := cs0) (by simpa [Value.cells] using hf0) (fun n hn => by
    have h := List.all_eq_true.1 hsz _ (DataW.weights_mem_each (j := 0) (t := 42) rfl rfl n hn)
    exact of_decide_eq_true h)
  obtain ⟨a1, rfl, rfl, rfl, wf1⟩ := open_int Try.underlying3 (hval 1 3 v1 rfl rfl) h1
  refine (walk _ V0 a1 W hV0 hWz0 hBi0 hBz0 (i64_bd wf1)).mono fun e W' ⟨he, hg⟩ => ?_
  subst he
  exact ⟨_, rfl, law_post Try.laidOut (by kernel_rfl) rfl (by kernel_rfl) Try.underlying4 rfl rfl rfl hW' hg⟩

theorem proved : Rows.VolumeReadsSaid :=
  OpenClaim.holds_of_wide 13 Try.f13 rfl rfl rfl rfl rfl rfl rfl ⟨rfl, rfl, rfl, rfl, rfl⟩ rfl rfl rfl rfl rfl (by kernel_rfl) Try.func13 (by kernel_rfl)
    (of_decide_eq_true (by kernel_rfl)) (by unfold Func.isWrapper; first | (rw [if_pos (by decide +kernel)]; kernel_rfl) | (rw [if_neg (by decide +kernel)]; exact ⟨rfl, rfl⟩))
    (fun os started H enc _ => lifted os started H enc)
#print axioms proved
end Go.Proofs.Ytajjhjabehiikaa.volumeReads
