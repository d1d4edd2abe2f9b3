/- slices.Equal at items and at strings, both slices holding the same: true. No condition. -/
import Derived.Test.YtajjhjabehiikabDoorChecked
import Derived.Test.YtajjhjabehiikabDoorPure
import Derived.Deep.QuietTactic
import Derived.BigQuiet
import Derived.IntWalk
import Derived.Lib.Hide
namespace Go.Proofs.YtajjhjabehiikabDoor
open Go.RowKit

set_option maxRecDepth 100000 in
theorem EqualI_any (v u : Value) (L : List It) (w : World) (hv : ItemsAt w v L) (hu : ItemsAt w u L) :
    Calls Tryd.prog 13 #[v, u] w fun e w' => e = .returned (.bool true) ∧ Below w.heap.size w w' := by
  obtain ⟨p, cap, rfl, hl, _, hc⟩ := hv
  obtain ⟨p', cap', rfl, _, _, hc'⟩ := hu
  have HC := Lib.hid hc
  have HC' := Lib.hid hc'
  clear hc hc'
  go_enter Tryd.func13, Tryd.ntmps13
  go_wp2
  go_loopw [13] (fun i wr => ∃ k : Nat, k ≤ L.length ∧ i = .int .i64 k ∧ Below w.heap.size w wr) (fun i _ => L.length - (intOf i).toNat)
  case atStart => exact ⟨0, Nat.zero_le _, rfl, Below.refl _ _⟩
  case round =>
    obtain ⟨k, hk, rfl, hb⟩ := hrel
    by_cases hlt : k < L.length
    · obtain ⟨x, hx⟩ : ∃ x, L[k]? = some x := ⟨L[k], List.getElem?_eq_getElem hlt⟩
      obtain ⟨b, off, rfl, hbl, c0, c1, c2⟩ := HC.out k x hx
      obtain ⟨b', off', rfl, hbl', d0, d1, d2⟩ := HC'.out k x hx
      replace c0 := (hb.cell (p := ⟨b, _, none⟩) hbl).trans c0
      replace c1 := (hb.cell (p := ⟨b, _, none⟩) hbl).trans c1
      replace c2 := (hb.cell (p := ⟨b, _, none⟩) hbl).trans c2
      replace d0 := (hb.cell (p := ⟨b', _, none⟩) hbl').trans d0
      replace d1 := (hb.cell (p := ⟨b', _, none⟩) hbl').trans d1
      replace d2 := (hb.cell (p := ⟨b', _, none⟩) hbl').trans d2
      clear hx
      go_wp2
      go_quiet (fail)
      go_wp2
      all_goals
        go_roundw
        case rel => exact ⟨k + 1, by omega, by go_num, below_dr hb _⟩
        case measure => simp [intOf]; omega
    · go_wp2
      go_ret
      exact ⟨rfl, hb⟩

set_option maxRecDepth 100000 in
theorem EqualS_any (v u : Value) (L : List ByteArray) (w : World) (hv : StrsAt w v L) (hu : StrsAt w u L) :
    Calls Tryd.prog 19 #[v, u] w fun e w' => e = .returned (.bool true) ∧ Below w.heap.size w w' := by
  obtain ⟨p, cap, rfl, hl, _, hc⟩ := hv
  obtain ⟨p', cap', rfl, _, _, hc'⟩ := hu
  have HC := Lib.hid hc
  have HC' := Lib.hid hc'
  clear hc hc'
  go_enter Tryd.func19, Tryd.ntmps19
  go_wp2
  go_loopw [13] (fun i wr => ∃ k : Nat, k ≤ L.length ∧ i = .int .i64 k ∧ Below w.heap.size w wr) (fun i _ => L.length - (intOf i).toNat)
  case atStart => exact ⟨0, Nat.zero_le _, rfl, Below.refl _ _⟩
  case round =>
    obtain ⟨k, hk, rfl, hb⟩ := hrel
    by_cases hlt : k < L.length
    · obtain ⟨x, hx⟩ : ∃ x, L[k]? = some x := ⟨L[k], List.getElem?_eq_getElem hlt⟩
      obtain ⟨b, off, rfl, hbl, c0⟩ := HC.out k x hx
      obtain ⟨b', off', rfl, hbl', d0⟩ := HC'.out k x hx
      replace c0 := (hb.cell (p := ⟨b, _, none⟩) hbl).trans c0
      replace d0 := (hb.cell (p := ⟨b', _, none⟩) hbl').trans d0
      clear hx
      go_wp2
      go_quiet (fail)
      go_wp2
      all_goals
        go_roundw
        case rel => exact ⟨k + 1, by omega, by go_num, below_dr hb _⟩
        case measure => simp [intOf]; omega
    · go_wp2
      go_ret
      exact ⟨rfl, hb⟩
end Go.Proofs.YtajjhjabehiikabDoor
