/- VolumeApplies: for every volume and all writes, volume.Apply gives what the document's answer gives, and leaves its argument as it was. No condition. -/
import Derived.Test.YtajjhjabehiikabApplyCode
import Derived.Test.YtajjhjabehiikabApplySmall
import Derived.Test.YtajjhjabehiikabSameVolume
import Derived.Test.YtajjhjabehiikabVolOpen
import Derived.Test.YtajjhjabehiikabWritesOpen
import Derived.Test.YtajjhjabehiikabRefApply
namespace Go.Proofs.Ytajjhjabehiikab.volumeApplies
open Go.ChangeShapes Go.WideShapes Go.ChangeAt Go.RowKit
open Go.ChangeMaps (open_string shut_string)

set_option maxRecDepth 100000 in
set_option maxHeartbeats 1000000 in
theorem walk (v : Value) (V : Vol) (u : Value) (W : List Wr) (w : World) (h : VolAt w v V) (hwz : WideZ V.blocks) (hbi : V.items.length * 32 ≤ 140737488351232) (hbz : V.blocks.length * 8 ≤ 140737488351232) (hw : WritesAt w u W) (_ : W.length * 24 ≤ 140737488351232) :
    Calls Try.prog 3 #[v, u] w fun e w' => e = .returned (.bool true) ∧ Below w.heap.size w w' := by
  have h' := h
  obtain ⟨vi, vb, rfl, hi, hz⟩ := h'
  obtain ⟨p1, c1, rfl, _⟩ := hi
  obtain ⟨p2, c2, rfl, _⟩ := hz
  have HV := Lib.hid h
  have HW := Lib.hid hw
  have HWZ := Lib.hid hwz
  obtain ⟨V2, n, hr⟩ : ∃ V2 n, applied V W = (V2, n) := ⟨_, _, rfl⟩
  have hs := applied_small V W
  rw [hr] at hs
  dsimp only at hs
  obtain ⟨hs1, hs2⟩ := hs
  have HR := Lib.hid hr
  clear h hw hr hwz
  go_enter Try.func3, Try.ntmps3
  go_wp2_with (first
    | (go_at_call 7; refine (VolumeCopy_any _ V _ (HV.out.keep (below_alloc (Below.refl _ _) _)) (by omega) (by omega)).mono ?_; rintro e w1 ⟨vi1, vb1, rfl, hown⟩; obtain ⟨q1, d1, rfl⟩ := hown.1.isSlice; obtain ⟨q2, d2, rfl⟩ := hown.2.1.isSlice; have hP1 : Past2 w _ _ _ w1 := hown.below; obtain ⟨a0, a1, f0, f1, hz⟩ := hP1.cells; have HK1 := Lib.hid (hown.vol (by omega) (by omega)); clear hown)
    | (go_at_call 8; refine (VApply_any _ _ V W _ (HK1.out.keep (below_alloc (Below.refl _ _) _)) HWZ.out (HW.out.keep (below_alloc hP1.box _))).mono ?_; rw [HR.out]; dsimp only; rintro e w2 ⟨vi2, vb2, rfl, hown2⟩; obtain ⟨r1, e1, rfl⟩ := hown2.1.isSlice; obtain ⟨r2, e2, rfl⟩ := hown2.2.1.isSlice; obtain ⟨b0, b1, g0, g1, hz2⟩ := blk2 hown2.below; have hb12 := below_then (below_alloc (Below.refl _ _) _) hown2.below; have hP2 := hP1.next hb12; clear a0 a1 f0 f1 hz; obtain ⟨a0, a1, f0, f1, hz⟩ := hP2.cells; have HK2 := Lib.hid (HK1.out.keep hb12); have HA2 := Lib.hid (hown2.vol (by omega) (by omega)); clear hown2)
    | (go_at_call 9; refine (AppliedOf_any _ _ V W _ (HV.out.keep (below_alloc hP2.box _)) (HW.out.keep (below_alloc hP2.box _))).mono ?_; rw [HR.out]; dsimp only; rintro e w3 ⟨vi3, vb3, rfl, hown3⟩; obtain ⟨s1, x1, rfl⟩ := hown3.1.isSlice; obtain ⟨s2, x2, rfl⟩ := hown3.2.1.isSlice; obtain ⟨t0, t1, k0, k1, hz3⟩ := blk2 hown3.below; have hb23 := below_then (below_alloc (Below.refl _ _) _) hown3.below; have hP3 := hP2.next hb23; clear a0 a1 f0 f1 hz; obtain ⟨a0, a1, f0, f1, hz⟩ := hP3.cells; have c0 := (hb23.cell (p := ⟨w1.heap.size, 0, none⟩) hz2).trans b0; have c1' := (hb23.cell (p := ⟨w1.heap.size, 1, none⟩) hz2).trans b1; have HK3 := Lib.hid (HK2.out.keep hb23); have HA3 := Lib.hid (HA2.out.keep hb23); have HB3 := Lib.hid (hown3.vol (by omega) (by omega)); clear hown3)
    | (go_at_call 10; refine (sameVolume_any _ _ V _ (HK3.out.keep (below_then (below_alloc (Below.refl _ _) _) hb5)) (HV.out.keep (below_then (below_alloc hP3.box _) hb5))).mono ?_; rintro e w6 ⟨rfl, hb6⟩)
    | (go_at_call 10; refine (sameVolume_any _ _ V2 _ (HA3.out.keep (below_alloc (Below.refl _ _) _)) (HB3.out.keep (below_alloc (Below.refl _ _) _))).mono ?_; rintro e w5 ⟨rfl, hb5⟩; have hb35 := below_then (below_alloc (Below.refl _ _) _) hb5; have hP5 := hP3.next hb35; clear a0 a1 f0 f1 hz; obtain ⟨a0, a1, f0, f1, hz⟩ := hP5.cells; have c0' := (hb35.cell (p := ⟨w1.heap.size, 0, none⟩) (Nat.lt_of_lt_of_le hz2 hb23.size)).trans c0; have c1'' := (hb35.cell (p := ⟨w1.heap.size, 1, none⟩) (Nat.lt_of_lt_of_le hz2 hb23.size)).trans c1'))
  go_ret
  exact ⟨rfl, below_then (below_then (below_alloc hP3.box _) hb5) hb6⟩

set_option maxRecDepth 100000 in
theorem lifted (os : Os) (started : os.Started) (H : Type) (enc : TypeId × Value → H) :
    ReturnsInHanded {} Try.checked os 3 .any (Rows.volumeAppliesSpec.pre6 enc Try.prog Try.f3 Rows.volumeAppliesRow.domain false) (Rows.volumeAppliesSpec.post enc Try.prog Try.f3 false true false false) := by
  refine returnsInHanded_of_change_sized (C := Try.checked) Try.ownNone started (by kernel_rfl) Try.func3
    (ChangeSpec.witness6 (enc := enc) (C := Try.checked) false ⟨#[], #[.agg #[.slice none 0 0, .slice none 0 0], .slice none 0 0], []⟩ 8 (by kernel_rfl) (by kernel_rfl) (by kernel_rfl) (by kernel_rfl)) ?_
  intro W base args ds gs before hval0 hW hcnd hsz0 _
  have hsz : (DataW.weightsEach Try.prog (Try.f3.params.toList ++ Rows.volumeAppliesSpec.plain.varTypes Try.prog) (ds ++ gs)).all (· ≤ reachBytes) = true := hsz0
  have hval : ∀ (j : Nat) t v, Try.f3.params[j]? = some t → args[j]? = some v → Value.okWide Try.prog W .any base t v := hval0
  have hW' := hW
  obtain ⟨p, q, hA0, hV, rfl, hfz, hnd⟩ := hW
  have hA : DataW.TrodAll enc Try.prog W 0 (fun _ => true) true Try.f3.params.toList args.toList ds p := hA0
  rw [Try.params3] at hA hval hsz
  obtain ⟨v0, vs0, d0, ds0, p0, q0, hargs, rfl, rfl, h0, r0⟩ := trodAll_cons hA
  obtain ⟨v1, vs1, d1, ds1, p1, q1, rfl, rfl, rfl, h1, r1⟩ := trodAll_cons r0
  obtain ⟨rfl, rfl, rfl⟩ := trodAll_nil r1
  obtain rfl : args = #[v0, v1] := by cases args; simp_all
  obtain ⟨rfl, rfl⟩ := trodVars_none hV
  obtain ⟨cs0, rfl, hcs0⟩ := okWide_struct Try.underlying25 (hval 0 25 v0 rfl rfl)
  obtain ⟨fuel0, hf0⟩ := h0
  obtain ⟨V0, hV0, hWi0, hWz0, hBi0, hBz0⟩ := open_vol (cs := cs0) (by simpa [Value.cells] using hf0) (fun n hn => by
    have h := List.all_eq_true.1 hsz _ (DataW.weights_mem_each (j := 0) (t := 25) rfl rfl n hn)
    exact of_decide_eq_true h)
  obtain ⟨ad1, ln1, cp1, rfl⟩ := okWide_slice Try.underlying26 (hval 1 26 v1 rfl rfl)
  obtain ⟨fuel1, hf1⟩ := h1
  obtain ⟨L1, hL1, hW1, hB1⟩ := open_writes hf1 (fun elems spare hd => by
    subst hd
    have h := sized_slice hsz (j := 1) (t := 26) rfl rfl Try.underlying26
    rw [Try.writeBytes] at h
    exact h)
  refine (walk _ V0 _ L1 W hV0 hWz0 hBi0 hBz0 hL1 hB1).mono fun e W' ⟨he, hg⟩ => ?_
  subst he
  exact ⟨_, rfl, law_post Try.laidOut (by kernel_rfl) rfl (by kernel_rfl) Try.underlying4 rfl rfl rfl hW' hg⟩

theorem proved : Rows.VolumeAppliesSaid :=
  OpenClaim.holds_of_wide 3 Try.f3 rfl rfl rfl rfl rfl rfl rfl ⟨rfl, rfl, rfl, rfl, rfl⟩ rfl rfl rfl rfl rfl (by kernel_rfl) Try.func3 (by kernel_rfl)
    (of_decide_eq_true (by kernel_rfl)) (by unfold Func.isWrapper; first | (rw [if_pos (by decide +kernel)]; kernel_rfl) | (rw [if_neg (by decide +kernel)]; exact ⟨rfl, rfl⟩))
    (fun os started H enc _ => lifted os started H enc)
#print axioms proved
end Go.Proofs.Ytajjhjabehiikab.volumeApplies
