/- slices.Equal at ints and at answers, both slices holding the same: true. No condition. -/
import Derived.Test.YthjaanhkmfiajacGreatDoorEngRun
import Derived.Deep.QuietTactic
import Derived.BigQuiet
import Derived.IntWalk
import Derived.Lib.Hide
namespace Go.Proofs.YthjaanhkmfiajacGreatDoor
open Go.RowKit

set_option maxRecDepth 100000 in
theorem EqualZ_any (v u : Value) (L : List Int) (w : World) (hv : IntsAt w v L) (hu : IntsAt w u L) :
    Calls Tryz.prog 18 #[v, u] w fun e w' => e = .returned (.bool true) ∧ Below w.heap.size w w' := by
  obtain ⟨p, cap, rfl, hl, _, hc⟩ := hv
  obtain ⟨p', cap', rfl, _, _, hc'⟩ := hu
  have HC := Lib.hid hc
  have HC' := Lib.hid hc'
  clear hc hc'
  go_enter Tryz.func18, Tryz.ntmps18
  go_wp2
  go_loopw [13] (fun i wr => ∃ k : Nat, k ≤ L.length ∧ i = .int .i64 k ∧ Below w.heap.size w wr) (fun i _ => L.length - (intOf i).toNat)
  case atStart => exact ⟨0, Nat.zero_le _, rfl, Below.refl _ _⟩
  case round =>
    obtain ⟨k, hk, rfl, hb⟩ := hrel
    by_cases hlt : k < L.length
    · obtain ⟨x, hx⟩ : ∃ x, L[k]? = some x := ⟨L[k], List.getElem?_eq_getElem hlt⟩
      obtain ⟨b, off, rfl, hbl, c0⟩ := HC.out k x hx
      obtain ⟨b', off', rfl, hbl', d0⟩ := HC'.out k x hx
      replace c0 := (hb.cell (p := ⟨b, _, none⟩) hbl).trans c0
      replace d0 := (hb.cell (p := ⟨b', _, none⟩) hbl').trans d0
      clear hx
      go_wp2
      go_quiet (fail)
      go_wp2
      all_goals
        go_roundw
        case rel => exact ⟨k + 1, by omega, by go_num, below_dr hb _⟩
        case measure => simp [intOf]; omega
    · go_wp2
      go_ret
      exact ⟨rfl, hb⟩

set_option maxRecDepth 100000 in
set_option maxHeartbeats 1000000 in
theorem EqualA_any (v u : Value) (L : List EM.Ans) (w : World) (hv : RowsAt ansC 5 w v L) (hu : RowsAt ansC 5 w u L) :
    Calls Tryz.prog 29 #[v, u] w fun e w' => e = .returned (.bool true) ∧ Below w.heap.size w w' := by
  obtain ⟨p, cap, rfl, hl, _, hc⟩ := hv
  obtain ⟨p', cap', rfl, _, _, hc'⟩ := hu
  have HC := Lib.hid hc
  have HC' := Lib.hid hc'
  clear hc hc'
  go_enter Tryz.func29, Tryz.ntmps29
  go_wp2
  go_loopw [13] (fun i wr => ∃ k : Nat, k ≤ L.length ∧ i = .int .i64 k ∧ Below w.heap.size w wr) (fun i _ => L.length - (intOf i).toNat)
  case atStart => exact ⟨0, Nat.zero_le _, rfl, Below.refl _ _⟩
  case round =>
    obtain ⟨k, hk, rfl, hb⟩ := hrel
    by_cases hlt : k < L.length
    · obtain ⟨x, hx⟩ : ∃ x, L[k]? = some x := ⟨L[k], List.getElem?_eq_getElem hlt⟩
      obtain ⟨b, off, rfl, hbl, h0⟩ := HC.out k x hx
      obtain ⟨b', off', rfl, hbl', h1⟩ := HC'.out k x hx
      have c0 := (hb.cell (p := ⟨b, off + k * 5 + 0, none⟩) hbl).trans (h0 0 (by decide))
      have c1 := (hb.cell (p := ⟨b, off + k * 5 + 1, none⟩) hbl).trans (h0 1 (by decide))
      have c2 := (hb.cell (p := ⟨b, off + k * 5 + 2, none⟩) hbl).trans (h0 2 (by decide))
      have c3 := (hb.cell (p := ⟨b, off + k * 5 + 3, none⟩) hbl).trans (h0 3 (by decide))
      have c4 := (hb.cell (p := ⟨b, off + k * 5 + 4, none⟩) hbl).trans (h0 4 (by decide))
      have d0 := (hb.cell (p := ⟨b', off' + k * 5 + 0, none⟩) hbl').trans (h1 0 (by decide))
      have d1 := (hb.cell (p := ⟨b', off' + k * 5 + 1, none⟩) hbl').trans (h1 1 (by decide))
      have d2 := (hb.cell (p := ⟨b', off' + k * 5 + 2, none⟩) hbl').trans (h1 2 (by decide))
      have d3 := (hb.cell (p := ⟨b', off' + k * 5 + 3, none⟩) hbl').trans (h1 3 (by decide))
      have d4 := (hb.cell (p := ⟨b', off' + k * 5 + 4, none⟩) hbl').trans (h1 4 (by decide))
      simp only [ansC, List.getElem?_cons_zero, List.getElem?_cons_succ, Nat.add_zero] at c0 c1 c2 c3 c4 d0 d1 d2 d3 d4
      clear hx h0 h1
      go_wp2
      go_quiet (fail)
      go_wp2
      all_goals
        go_roundw
        case rel => exact ⟨k + 1, by omega, by go_num, below_dr hb _⟩
        case measure => simp [intOf]; omega
    · go_wp2
      go_ret
      exact ⟨rfl, hb⟩
end Go.Proofs.YthjaanhkmfiajacGreatDoor
