/- Package engine: mark and what it leaves of the state. No condition but that the state stands. -/
import Derived.Test.YthjaanhkmfiajacEngSmall
import Derived.Test.YthjaanhkmfiajacVolCopy
namespace Go.Proofs.Ythjaanhkmfiajac
open Go.RowKit LM

section
variable {B : Nat} {W0 : World} {g n : Nat} {s : EM.St}

set_option maxHeartbeats 1000000 in
theorem mark_any (w : World) (h : St B W0 w g n s) :
    Calls Try.prog 25 #[.pointer (some ⟨g, 0, none⟩)] w fun e w' => e = .returned (.tuple #[]) ∧ St B W0 w' g n (EM.step s (EM.act 8)).1 ∧ Soft w w' := by
  obtain ⟨hi, vi, vb, si, sb, wv, hc⟩ := h
  have hsm := hi.now.1.small
  have hcp := VCopy_any _ s.now w hc.vol.at (by omega) (by omega)
  have c0 := hc.c0
  have c1 := hc.c1
  have HC := Lib.hid hc
  have HI := Lib.hid hi
  have HCP := Lib.hid hcp
  clear hc hi hcp
  go_enter Try.func25, Try.ntmps25
  go_wp2_with (go_at_call 9; refine HCP.out.mono ?_; rintro e w1 ⟨ci, cb, rfl, ho⟩; obtain ⟨pi, ki, rfl⟩ := ho.1.isSlice; obtain ⟨pz, kz, rfl⟩ := ho.2.1.isSlice; have hc1 := HC.out.keep ho.below; have d2 := hc1.c2; have d3 := hc1.c3; have d4 := hc1.c4; have d5 := hc1.c5; have f2 := hc1.fz 2; have f3 := hc1.fz 3; have f4 := hc1.fz 4; have f5 := hc1.fz 5; have HC1 := Lib.hid hc1; have HO := Lib.hid ho; clear hc1 ho)
  go_end0
  have hty := HO.out.ty (by omega) (by omega)
  have h1 := HC1.out.setSaved hty
  have h2 := h1.setLog ⟨#[]⟩
  have h3 := h2.setDur 0
  refine ⟨rfl, ⟨?_, vi, vb, _, _, wv, h3⟩, ((Soft.of_below HO.out.below).trans (HC1.out.soft2 _ _ _ _)).trans ((h1.soft _ _).trans (h2.soft _ _))⟩
  exact EM.step_inv HI.out (EM.act 8)
end
end Go.Proofs.Ythjaanhkmfiajac
