/- slices.Equal at writes, slices.EqualFunc at transactions, the statements' own sameDeals: both hold the same: true. No condition. -/
import Derived.Test.YthjaanhkmfiajabDoorDeals
import Derived.Test.YthjaanhkmfiajabDoorChecked
import Derived.Deep.QuietTactic
import Derived.BigQuiet
import Derived.IntWalk
import Derived.Lib.Hide
namespace Go.Proofs.YthjaanhkmfiajabDoor
open Go.RowKit

set_option maxRecDepth 100000 in
theorem EqualW_any (v u : Value) (L : List Wr) (w : World) (hv : WritesAt w v L) (hu : WritesAt w u L) :
    Calls Tryd.prog 59 #[v, u] w fun e w' => e = .returned (.bool true) ∧ Below w.heap.size w w' := by
  obtain ⟨p, cap, rfl, hl, _, hc⟩ := hv
  obtain ⟨p', cap', rfl, _, _, hc'⟩ := hu
  have HC := Lib.hid hc
  have HC' := Lib.hid hc'
  clear hc hc'
  go_enter Tryd.func59, Tryd.ntmps59
  go_wp2
  go_loopw [13] (fun i wr => ∃ k : Nat, k ≤ L.length ∧ i = .int .i64 k ∧ Below w.heap.size w wr) (fun i _ => L.length - (intOf i).toNat)
  case atStart => exact ⟨0, Nat.zero_le _, rfl, Below.refl _ _⟩
  case round =>
    obtain ⟨k, hk, rfl, hb⟩ := hrel
    by_cases hlt : k < L.length
    · obtain ⟨x, hx⟩ : ∃ x, L[k]? = some x := ⟨L[k], List.getElem?_eq_getElem hlt⟩
      obtain ⟨b, off, rfl, hbl, c0, c1⟩ := HC.out k x hx
      obtain ⟨b', off', rfl, hbl', d0, d1⟩ := HC'.out k x hx
      replace c0 := (hb.cell (p := ⟨b, _, none⟩) hbl).trans c0
      replace c1 := (hb.cell (p := ⟨b, _, none⟩) hbl).trans c1
      replace d0 := (hb.cell (p := ⟨b', _, none⟩) hbl').trans d0
      replace d1 := (hb.cell (p := ⟨b', _, none⟩) hbl').trans d1
      clear hx
      go_wp2
      go_quiet (fail)
      go_wp2
      all_goals
        go_roundw
        case rel => exact ⟨k + 1, by omega, by go_num, below_dr hb _⟩
        case measure => simp [intOf]; omega
    · go_wp2
      go_ret
      exact ⟨rfl, hb⟩

theorem sameW_any (v u : Value) (L : List Wr) (w : World) (hv : WritesAt w v L) (hu : WritesAt w u L) :
    Calls Tryd.prog 58 #[v, u] w fun e w' => e = .returned (.bool true) ∧ Below w.heap.size w w' := by
  have HV := Lib.hid hv
  have HU := Lib.hid hu
  clear hv hu
  go_enter Tryd.func58, Tryd.ntmps58
  go_wp2_with (go_at_call 59; refine (EqualW_any _ _ L _ HV.out HU.out).mono ?_; rintro e w1 ⟨rfl, hb1⟩)
  go_ret
  exact ⟨rfl, hb1⟩

set_option maxRecDepth 100000 in
set_option maxHeartbeats 1000000 in
theorem EqualFunc_any (v u : Value) (D : List (List Wr)) (w : World) (hv : DealsAt w v D) (hu : DealsAt w u D) :
    Calls Tryd.prog 57 #[v, u, .func (.func 58) #[] #[]] w fun e w' => e = .returned (.bool true) ∧ Below w.heap.size w w' := by
  obtain ⟨p, cap, rfl, hl, _, hc⟩ := hv
  obtain ⟨p', cap', rfl, _, _, hc'⟩ := hu
  have HC := Lib.hid hc
  have HC' := Lib.hid hc'
  clear hc hc'
  go_enter Tryd.func57, Tryd.ntmps57
  go_wp2
  go_loopw [17] (fun i wr => ∃ k : Nat, k ≤ D.length ∧ i = .int .i64 k ∧ Below w.heap.size w wr) (fun i _ => D.length - (intOf i).toNat)
  case atStart => exact ⟨0, Nat.zero_le _, rfl, Below.refl _ _⟩
  case round =>
    obtain ⟨k, hk, rfl, hb⟩ := hrel
    by_cases hlt : k < D.length
    · obtain ⟨x, hx⟩ : ∃ x, D[k]? = some x := ⟨D[k], List.getElem?_eq_getElem hlt⟩
      obtain ⟨b, off, y, rfl, hbl, c0, hy⟩ := HC.out k x hx
      obtain ⟨b', off', z, rfl, hbl', d0, hz⟩ := HC'.out k x hx
      replace c0 := (hb.cell (p := ⟨b, _, none⟩) hbl).trans c0
      replace d0 := (hb.cell (p := ⟨b', _, none⟩) hbl').trans d0
      have HY := Lib.hid (hy.keep hb)
      have HZ := Lib.hid (hz.keep hb)
      clear hx hy hz
      go_wp2_with (go_at_call 58; refine (sameW_any _ _ x _ HY.out HZ.out).mono ?_; rintro e w1 ⟨rfl, hb1⟩)
      go_roundw
      case rel => exact ⟨k + 1, by omega, by go_num, below_then hb hb1⟩
      case measure => simp [intOf]; omega
    · go_wp2
      go_ret
      exact ⟨rfl, hb⟩

theorem sameDeals_any (v u : Value) (D : List (List Wr)) (w : World) (hv : DealsAt w v D) (hu : DealsAt w u D) :
    Calls Tryd.prog 29 #[v, u] w fun e w' => e = .returned (.bool true) ∧ Below w.heap.size w w' := by
  have HV := Lib.hid hv
  have HU := Lib.hid hu
  clear hv hu
  go_enter Tryd.func29, Tryd.ntmps29
  go_wp2_with (go_at_call 57; refine (EqualFunc_any _ _ D _ HV.out HU.out).mono ?_; rintro e w1 ⟨rfl, hb1⟩)
  go_ret
  exact ⟨rfl, hb1⟩
end Go.Proofs.YthjaanhkmfiajabDoor
