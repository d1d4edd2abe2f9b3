/- slices.Clone at integers and volume.Copy: what they return. Condition: the size of what is copied. -/
import Derived.Test.YthjaanhkmfiajacRepoClone
import Derived.Test.YthjaanhkmfiajacPure
namespace Go.Proofs.Ythjaanhkmfiajac
open Go.RowKit

set_option maxRecDepth 100000 in
set_option maxHeartbeats 1000000 in
theorem CloneZ_any (v : Value) (Z : List Int) (w : World) (h : IntsAt w v Z) (hlen : Z.length * 8 ≤ 140737488355328) :
    Calls Try.prog 18 #[v] w fun e w' => ∃ v', e = .returned v' ∧ OwnZ w.heap.size 3 v' Z w w' := by
  obtain ⟨i0, hi, hz0, hz1, hz2⟩ := info_parts Try.infoInt
  have h' := h
  obtain ⟨p, cap, rfl, hl, hn, hc⟩ := h'
  have HI := Lib.hid h
  clear h
  have q22 : ∀ (w : World) (a : Option Addr) (n c n' c' : Nat), (binOp .eql 25 (.slice a n c) (.slice none n' c')).run Try.prog w = .ok (.bool a.isNone) w := fun w a n c n' c' => Lib.run_eql_slice_nil w _ _ a n c n' c' Try.underlying25
  cases p with
  | none =>
    have hL : Z = [] := by
      cases Z with
      | nil => rfl
      | cons y M => obtain ⟨_, _, hp, _⟩ := hc 0 y rfl; cases hp
    subst hL
    obtain rfl := hn rfl
    clear hc hn
    go_enter Try.func18, Try.ntmps18
    go_wp2
    go_ret
    exact ⟨_, rfl, OwnZ.nil (Below.refl _ _) (Nat.le_refl _)⟩
  | some ad =>
    clear hc hn
    have h0 : OwnZ w.heap.size 3 (.slice (some ⟨w.heap.size, 0, none⟩) 0 0) [] w (w.alloc (.cells #[] 3)) := ⟨World.ownsRow_made w #[] 0 (Nat.le_refl _) (Nat.zero_le _) rfl, below_alloc (Below.refl _ _) _, by simp⟩
    have H0 := Lib.hid h0
    clear h0
    go_enter Try.func18, Try.ntmps18
    go_wp2_with (at_builtin; refine wpList_own_ints rfl _ _ 25 rfl w.heap.size 3 i0 _ Try.underlying25 hi hz0 rfl hz1 hz2 _ [] rfl w Z _ H0.out (HI.out.keep (below_alloc (Below.refl _ _) _)) rfl (by simp; omega) ?_; intro v2 w2 hown2)
    go_ret
    exact ⟨_, rfl, hown2.cast (by simp)⟩

set_option maxRecDepth 100000 in
set_option maxHeartbeats 2000000 in
theorem VCopy_any (v : Value) (V : Vol) (w : World) (h : VolAt w v V) (hli : V.items.length * 32 ≤ 140737488355328) (hlz : V.blocks.length * 8 ≤ 140737488355328) :
    Calls Try.prog 9 #[v] w fun e w' => ∃ vi vb, e = .returned (.agg #[vi, vb]) ∧ OwnVol w.heap.size vi vb V w w' := by
  obtain ⟨vi, vb, rfl, hI, hZ⟩ := h
  have hB2 := below_alloc (below_alloc (Below.refl w.heap.size w) (.cells #[vi, vb] 27)) (.cells #[.slice none 0 0, .slice none 0 0] 27)
  have HI := Lib.hid (hI.keep hB2)
  have HZ := Lib.hid (hZ.keep hB2)
  obtain ⟨pi, ci, rfl, _⟩ := hI
  obtain ⟨pz, cz, rfl, _⟩ := hZ
  go_enter Try.func9, Try.ntmps9
  go_wp2
  go_region_law (first
    | (go_simp; go_at_call 17; refine (Clone_any _ V.items _ (HI.out.keep (Below.refl _ _).drew) hli).mono ?_; rintro e w2 ⟨v2, rfl, ho2⟩; obtain ⟨p2, c2, rfl⟩ := ho2.isSlice; obtain ⟨a0, a1, b0, b1, f0, f1⟩ := two_boxes ho2.below rfl; have hi2 := HZ.out.keep ((Below.refl _ _).drew.trans (ho2.below)); have HO2 := Lib.hid ho2; clear ho2)
    | (go_simp; go_at_call 18; refine (CloneZ_any _ V.blocks _ (HZ.out.keep (Below.refl _ _).drew) hlz).mono ?_; rintro e w2 ⟨v2, rfl, ho2⟩; obtain ⟨p2, c2, rfl⟩ := ho2.isSlice; obtain ⟨a0, a1, b0, b1, f0, f1⟩ := two_boxes ho2.below rfl; have hi2 := HI.out.keep ((Below.refl _ _).drew.trans (ho2.below)); have HO2 := Lib.hid ho2; clear ho2)
    | (go_simp; go_at_call 17; refine (Clone_any _ V.items _ hi2 hli).mono ?_; rintro e w3 ⟨v3, rfl, ho3⟩; obtain ⟨p3, c3, rfl⟩ := ho3.isSlice; obtain ⟨a0', a1', b0', b1', f0', f1'⟩ := two_boxes (HO2.out.below.trans (ho3.below.mono HO2.out.below.size)) rfl; clear a0 a1 b0 b1 f0 f1; have HO3 := Lib.hid ho3; clear ho3)
    | (go_simp; go_at_call 18; refine (CloneZ_any _ V.blocks _ hi2 hlz).mono ?_; rintro e w3 ⟨v3, rfl, ho3⟩; obtain ⟨p3, c3, rfl⟩ := ho3.isSlice; obtain ⟨a0', a1', b0', b1', f0', f1'⟩ := two_boxes (HO2.out.below.trans (ho3.below.mono HO2.out.below.size)) rfl; clear a0 a1 b0 b1 f0 f1; have HO3 := Lib.hid ho3; clear ho3))
  all_goals
    go_wp2
    first
      | exact bodyPost_ret (v := .agg #[.slice p2 V.items.length c2, .slice p3 V.blocks.length c3]) (by simp [results, Try.results9, go_sem, b0', b1']) rfl ⟨_, _, rfl, fin_items_first hB2 (by simp) HO2.out HO3.out⟩
      | exact bodyPost_ret (v := .agg #[.slice p3 V.items.length c3, .slice p2 V.blocks.length c2]) (by simp [results, Try.results9, go_sem, b0', b1']) rfl ⟨_, _, rfl, fin_ints_first hB2 (by simp) HO2.out HO3.out⟩
end Go.Proofs.Ythjaanhkmfiajac
