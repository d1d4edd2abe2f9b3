/- The document's ScriptOf: what it refuses. No condition but those in the statements. -/
import Derived.Test.YthjaanhkmfiajacRefEnd
import Derived.Test.YthjaanhkmfiajacRefVols
namespace Go.Proofs.Ythjaanhkmfiajac
open Go.RowKit LM

set_option maxRecDepth 100000 in
theorem ScriptOf_range (n : Int) (hn : ¬ (1 ≤ n ∧ n ≤ 32)) (u : Value) (w : World) :
    Calls Try.prog 5 #[.int .i64 n, u] w (RunBad 2 w) := by
  have hnew : newOf n = (⟨[], []⟩, 2) := by
    unfold newOf
    rw [if_neg hn]
  have hN := VolumeOf_any n (w.alloc (.cells #[.slice none 0 0, .slice none 0 0] 27))
  rw [hnew] at hN
  have HN := Lib.hid hN
  have h5 := VBox.new w (.slice none 0 0) (.slice none 0 0)
  have H5 := Lib.hid h5
  clear hN hnew hn h5
  go_enter Try.func5, Try.ntmps5
  go_wp2_with (go_at_call 11; refine HN.out.mono ?_; rintro e w1 ⟨vi, vz, rfl, ho⟩; obtain ⟨pi, ki, rfl⟩ := ho.1.isSlice; obtain ⟨pz, kz, rfl⟩ := ho.2.1.isSlice; obtain ⟨e50, e51, f50, f51⟩ := ((H5.out.keep ho.below).keep (below_alloc (Below.refl _ _) (.cells #[.slice pi 0 ki, .slice pz 0 kz] 27))).at; have hb1 := below_then (below_alloc (Below.refl _ _) _) ho.below; clear ho)
  exact bodyPost_ret (v := .tuple #[.slice none 0 0, .agg #[.slice none 0 0, .slice none 0 0], .int .i64 2]) (by simp [results, Try.results5, go_sem, e50, e51]) rfl
    ⟨rfl, ((below_alloc hb1 _).setCell (p := ⟨w.heap.size, 0, none⟩) (Nat.le_refl _) _).setCell (p := ⟨w.heap.size, 1, none⟩) (Nat.le_refl _) _⟩

set_option maxRecDepth 100000 in
theorem ScriptOf_size (n : Nat) (hn : 1 ≤ n ∧ n ≤ 32) (p : Option Addr) (k c : Nat) (hk : 300 < k) (w : World) :
    Calls Try.prog 5 #[.int .i64 (n : Int), .slice p k c] w (RunBad 1 w) := by
  have hnew : newOf (n : Int) = (newV n, 0) := by
    unfold newOf
    rw [if_pos (by omega), Int.toNat_natCast]
  have hN := VolumeOf_any (n : Int) (w.alloc (.cells #[.slice none 0 0, .slice none 0 0] 27))
  rw [hnew] at hN
  obtain ⟨V0, hV0⟩ : ∃ V, V = newV n := ⟨_, rfl⟩
  rw [← hV0] at hN
  have HN := Lib.hid hN
  have h5 := VBox.new w (.slice none 0 0) (.slice none 0 0)
  have H5 := Lib.hid h5
  have t300 : (300 : Int) < (k : Int) := by omega
  clear hN hnew h5 hV0
  go_enter Try.func5, Try.ntmps5
  go_wp2_with (go_at_call 11; refine HN.out.mono ?_; rintro e w1 ⟨vi, vz, rfl, ho⟩; obtain ⟨pi, ki, rfl⟩ := ho.1.isSlice; obtain ⟨pz, kz, rfl⟩ := ho.2.1.isSlice; obtain ⟨e50, e51, f50, f51⟩ := ((H5.out.keep ho.below).keep (below_alloc (Below.refl _ _) (.cells #[.slice pi V0.items.length ki, .slice pz V0.blocks.length kz] 27))).at; have hb1 := below_then (below_alloc (Below.refl _ _) _) ho.below; clear ho)
  exact bodyPost_ret (v := .tuple #[.slice none 0 0, .agg #[.slice none 0 0, .slice none 0 0], .int .i64 1]) (by simp [results, Try.results5, go_sem, e50, e51]) rfl
    ⟨rfl, ((below_alloc hb1 _).setCell (p := ⟨w.heap.size, 0, none⟩) (Nat.le_refl _) _).setCell (p := ⟨w.heap.size, 1, none⟩) (Nat.le_refl _) _⟩
end Go.Proofs.Ythjaanhkmfiajac
