/- The statements' own sameVolume: true on two volumes that hold the same. No condition. -/
import Derived.Test.YtajjhjabehiikabSameItems
import Derived.Test.YtajjhjabehiikabInts
import Derived.Test.YtajjhjabehiikabPast22
namespace Go.Proofs.Ytajjhjabehiikab
open Go.RowKit


set_option maxRecDepth 100000 in
set_option maxHeartbeats 1000000 in
theorem sameVolume_any (v u : Value) (V : Vol) (w : World) (hv : VolAt w v V) (hu : VolAt w u V) :
    Calls Try.prog 10 #[v, u] w fun e w' => e = .returned (.bool true) ∧ Below w.heap.size w w' := by
  obtain ⟨vi, vb, rfl, hi, hb⟩ := hv
  obtain ⟨ui, ub, rfl, gi, gb⟩ := hu
  have HI := Lib.hid hi
  have GI := Lib.hid gi
  obtain ⟨pi, ci, rfl, _⟩ := hi
  obtain ⟨qi, di, rfl, _⟩ := gi
  obtain ⟨p, cap, rfl, hl, _, hc⟩ := hb
  obtain ⟨q, dap, rfl, _, _, gc⟩ := gb
  have HC := Lib.hid hc
  have GC := Lib.hid gc
  clear hc gc
  go_enter Try.func10, Try.ntmps10
  go_wp2
  go_loopw [5] (fun i wr => ∃ k : Nat, k ≤ V.blocks.length ∧ i = .int .i64 k ∧ Past22 w (.slice pi V.items.length ci) (.slice p V.blocks.length cap) (.slice qi V.items.length di) (.slice q V.blocks.length dap) 25 wr) (fun i _ => V.blocks.length - (intOf i).toNat)
  case atStart => exact ⟨0, Nat.zero_le _, rfl, Past22.start _ _ _ _ _ _⟩
  case round =>
    obtain ⟨k, hk, rfl, hP⟩ := hrel
    obtain ⟨a0, a1, b0, b1⟩ := hP.cells
    by_cases hlt : k < V.blocks.length
    · obtain ⟨z, hz⟩ : ∃ z, V.blocks[k]? = some z := ⟨V.blocks[k], List.getElem?_eq_getElem hlt⟩
      obtain ⟨b, off, rfl, hbl, c0⟩ := HC.out k z hz
      obtain ⟨b', off', rfl, hbl', d0⟩ := GC.out k z hz
      replace c0 := (hP.box.cell (p := ⟨b, _, none⟩) hbl).trans c0
      replace d0 := (hP.box.cell (p := ⟨b', _, none⟩) hbl').trans d0
      clear hz
      go_wp2
      go_quiet (fail)
      go_wp2
      go_roundw
      case rel => exact ⟨k + 1, by omega, by go_num, hP.dr _⟩
      case measure => simp [intOf]; omega
    · go_wp2_with (go_at_call 27; refine (sameItems_any _ _ V.items _ (HI.out.keep hP.box) (GI.out.keep hP.box)).mono ?_; rintro e w5 ⟨rfl, hb5⟩)
      go_ret
      exact ⟨rfl, below_then hP.box hb5⟩
end Go.Proofs.Ytajjhjabehiikab
