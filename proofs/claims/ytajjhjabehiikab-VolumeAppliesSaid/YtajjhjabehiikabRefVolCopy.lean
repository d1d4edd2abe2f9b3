/- The document's VolumeCopy: what it returns. Condition: the size of what is copied. -/
import Derived.Test.YtajjhjabehiikabVolBoxes
namespace Go.Proofs.Ytajjhjabehiikab
open Go.RowKit

set_option maxRecDepth 100000 in
set_option maxHeartbeats 2000000 in
theorem VolumeCopy_any (v : Value) (V : Vol) (w : World) (h : VolAt w v V) (hli : V.items.length * 32 ≤ 140737488355328) (hlz : V.blocks.length * 8 ≤ 140737488355328) :
    Calls Try.prog 7 #[v] w fun e w' => ∃ vi vb, e = .returned (.agg #[vi, vb]) ∧ OwnVol w.heap.size vi vb V w w' := by
  obtain ⟨i0, hi, hz0, hz1, hz2⟩ := info_parts Try.infoItem
  obtain ⟨j0, hj, hy0, hy1, hy2⟩ := info_parts Try.infoInt
  obtain ⟨vi, vb, rfl, hI, hZ⟩ := h
  have hB2 := below_alloc (below_alloc (Below.refl w.heap.size w) (.cells #[vi, vb] 25)) (.cells #[.slice none 0 0, .slice none 0 0] 25)
  have HI := Lib.hid (hI.keep hB2)
  have HZ := Lib.hid (hZ.keep hB2)
  obtain ⟨pi, ci, rfl, _⟩ := hI
  obtain ⟨pz, cz, rfl, _⟩ := hZ
  go_enter Try.func7, Try.ntmps7
  go_wp2
  go_region_law (first
    | (refine step_copy_all_items rfl (.const (.slice none 0 0)) (.tmp 4) 22 rfl 78 i0 _ Try.underlying22 hi hz0 rfl hz1 hz2 rfl V.items _ (HI.out.keep (Below.refl _ _).drew) rfl hli ?_; intro v2 w2 ho2; obtain ⟨p2, c2, rfl⟩ := ho2.isSlice; obtain ⟨a0, a1, b0, b1, f0, f1⟩ := two_boxes ho2.below rfl; have hi2 := HZ.out.keep ((Below.refl _ _).drew.trans (ho2.below)); have HO2 := Lib.hid ho2; clear ho2)
    | (refine step_copy_all_ints rfl (.const (.slice none 0 0)) (.tmp 7) 23 rfl 3 j0 _ Try.underlying23 hj hy0 rfl hy1 hy2 rfl V.blocks _ (HZ.out.keep (Below.refl _ _).drew) rfl hlz ?_; intro v2 w2 ho2; obtain ⟨p2, c2, rfl⟩ := ho2.isSlice; obtain ⟨a0, a1, b0, b1, f0, f1⟩ := two_boxes ho2.below rfl; have hi2 := HI.out.keep ((Below.refl _ _).drew.trans (ho2.below)); have HO2 := Lib.hid ho2; clear ho2)
    | (refine step_copy_all_items rfl (.const (.slice none 0 0)) (.tmp 4) 22 rfl 78 i0 _ Try.underlying22 hi hz0 rfl hz1 hz2 rfl V.items _ hi2 rfl hli ?_; intro v3 w3 ho3; obtain ⟨p3, c3, rfl⟩ := ho3.isSlice; obtain ⟨a0', a1', b0', b1', f0', f1'⟩ := two_boxes (HO2.out.below.trans (ho3.below.mono HO2.out.below.size)) rfl; clear a0 a1 b0 b1 f0 f1; have HO3 := Lib.hid ho3; clear ho3)
    | (refine step_copy_all_ints rfl (.const (.slice none 0 0)) (.tmp 7) 23 rfl 3 j0 _ Try.underlying23 hj hy0 rfl hy1 hy2 rfl V.blocks _ hi2 rfl hlz ?_; intro v3 w3 ho3; obtain ⟨p3, c3, rfl⟩ := ho3.isSlice; obtain ⟨a0', a1', b0', b1', f0', f1'⟩ := two_boxes (HO2.out.below.trans (ho3.below.mono HO2.out.below.size)) rfl; clear a0 a1 b0 b1 f0 f1; have HO3 := Lib.hid ho3; clear ho3))
  all_goals
    go_wp2
    first
      | exact bodyPost_ret (v := .agg #[.slice p2 V.items.length c2, .slice p3 V.blocks.length c3]) (by simp [results, Try.results7, go_sem, b0', b1']) rfl ⟨_, _, rfl, fin_items_first hB2 (by simp) HO2.out HO3.out⟩
      | exact bodyPost_ret (v := .agg #[.slice p3 V.items.length c3, .slice p2 V.blocks.length c2]) (by simp [results, Try.results7, go_sem, b0', b1']) rfl ⟨_, _, rfl, fin_ints_first hB2 (by simp) HO2.out HO3.out⟩
end Go.Proofs.Ytajjhjabehiikab
