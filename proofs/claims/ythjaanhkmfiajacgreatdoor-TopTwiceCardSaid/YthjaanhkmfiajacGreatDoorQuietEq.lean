/- slices.Equal at items, strings, ints and answers, both slices holding the same: true, and only draws are made. No condition. -/
import Derived.Test.YthjaanhkmfiajacGreatDoorTopBase
import Derived.Test.YthjaanhkmfiajacGreatDoorKeepEqualZ
namespace Go.Proofs.YthjaanhkmfiajacGreatDoor
open Go.RowKit

theorem drew_more {w wr : World} (h : Hid (∃ m, wr = w.drewN m)) (n : Nat) : Hid (∃ m, wr.drewN n = w.drewN m) := by
  obtain ⟨m, rfl⟩ := h.out
  exact Lib.hid ⟨m + n, World.drewN_drewN _ _ _⟩

set_option maxRecDepth 100000 in
theorem EqualI_quiet (v u : Value) (L : List It) (w : World) (hv : ItemsAt w v L) (hu : ItemsAt w u L) :
    Calls Tryz.prog 17 #[v, u] w fun e w' => e = .returned (.bool true) ∧ ∃ m, w' = w.drewN m := by
  obtain ⟨p, cap, rfl, hl, _, hc⟩ := hv
  obtain ⟨p', cap', rfl, _, _, hc'⟩ := hu
  have HC := Lib.hid hc
  have HC' := Lib.hid hc'
  clear hc hc'
  go_enter Tryz.func17, Tryz.ntmps17
  go_wp2
  go_loopw [13] (fun i wr => ∃ k : Nat, k ≤ L.length ∧ i = .int .i64 k ∧ Hid (∃ m, wr = w.drewN m)) (fun i _ => L.length - (intOf i).toNat)
  case atStart => exact ⟨0, Nat.zero_le _, rfl, Lib.hid ⟨0, rfl⟩⟩
  case round =>
    obtain ⟨k, hk, rfl, hq⟩ := hrel
    have hb : Below w.heap.size w wr := (by obtain ⟨m, rfl⟩ := hq.out; exact below_dr (Below.refl _ _) m)
    by_cases hlt : k < L.length
    · obtain ⟨x, hx⟩ : ∃ x, L[k]? = some x := ⟨L[k], List.getElem?_eq_getElem hlt⟩
      obtain ⟨b, off, rfl, hbl, c0, c1, c2⟩ := HC.out k x hx
      obtain ⟨b', off', rfl, hbl', d0, d1, d2⟩ := HC'.out k x hx
      replace c0 := (hb.cell (p := ⟨b, _, none⟩) hbl).trans c0
      replace c1 := (hb.cell (p := ⟨b, _, none⟩) hbl).trans c1
      replace c2 := (hb.cell (p := ⟨b, _, none⟩) hbl).trans c2
      replace d0 := (hb.cell (p := ⟨b', _, none⟩) hbl').trans d0
      replace d1 := (hb.cell (p := ⟨b', _, none⟩) hbl').trans d1
      replace d2 := (hb.cell (p := ⟨b', _, none⟩) hbl').trans d2
      clear hx
      go_wp2
      go_quiet (fail)
      go_wp2
      all_goals
        go_roundw
        case rel => exact ⟨k + 1, by omega, by go_num, drew_more hq _⟩
        case measure => simp [intOf]; omega
    · go_wp2
      go_ret
      exact ⟨rfl, hq.out⟩

set_option maxRecDepth 100000 in
theorem EqualS_quiet (v u : Value) (L : List ByteArray) (w : World) (hv : StrsAt w v L) (hu : StrsAt w u L) :
    Calls Tryz.prog 24 #[v, u] w fun e w' => e = .returned (.bool true) ∧ ∃ m, w' = w.drewN m := by
  obtain ⟨p, cap, rfl, hl, _, hc⟩ := hv
  obtain ⟨p', cap', rfl, _, _, hc'⟩ := hu
  have HC := Lib.hid hc
  have HC' := Lib.hid hc'
  clear hc hc'
  go_enter Tryz.func24, Tryz.ntmps24
  go_wp2
  go_loopw [13] (fun i wr => ∃ k : Nat, k ≤ L.length ∧ i = .int .i64 k ∧ Hid (∃ m, wr = w.drewN m)) (fun i _ => L.length - (intOf i).toNat)
  case atStart => exact ⟨0, Nat.zero_le _, rfl, Lib.hid ⟨0, rfl⟩⟩
  case round =>
    obtain ⟨k, hk, rfl, hq⟩ := hrel
    have hb : Below w.heap.size w wr := (by obtain ⟨m, rfl⟩ := hq.out; exact below_dr (Below.refl _ _) m)
    by_cases hlt : k < L.length
    · obtain ⟨x, hx⟩ : ∃ x, L[k]? = some x := ⟨L[k], List.getElem?_eq_getElem hlt⟩
      obtain ⟨b, off, rfl, hbl, c0⟩ := HC.out k x hx
      obtain ⟨b', off', rfl, hbl', d0⟩ := HC'.out k x hx
      replace c0 := (hb.cell (p := ⟨b, _, none⟩) hbl).trans c0
      replace d0 := (hb.cell (p := ⟨b', _, none⟩) hbl').trans d0
      clear hx
      go_wp2
      go_quiet (fail)
      go_wp2
      all_goals
        go_roundw
        case rel => exact ⟨k + 1, by omega, by go_num, drew_more hq _⟩
        case measure => simp [intOf]; omega
    · go_wp2
      go_ret
      exact ⟨rfl, hq.out⟩
set_option maxRecDepth 100000 in
theorem EqualZ_quiet (v u : Value) (L : List Int) (w : World) (hv : IntsAt w v L) (hu : IntsAt w u L) :
    Calls Tryz.prog 18 #[v, u] w fun e w' => e = .returned (.bool true) ∧ ∃ m, w' = w.drewN m := by
  obtain ⟨p, cap, rfl, hl, _, hc⟩ := hv
  obtain ⟨p', cap', rfl, _, _, hc'⟩ := hu
  have HC := Lib.hid hc
  have HC' := Lib.hid hc'
  clear hc hc'
  go_enter Tryz.func18, Tryz.ntmps18
  go_wp2
  go_loopw [13] (fun i wr => ∃ k : Nat, k ≤ L.length ∧ i = .int .i64 k ∧ Hid (∃ m, wr = w.drewN m)) (fun i _ => L.length - (intOf i).toNat)
  case atStart => exact ⟨0, Nat.zero_le _, rfl, Lib.hid ⟨0, rfl⟩⟩
  case round =>
    obtain ⟨k, hk, rfl, hq⟩ := hrel
    have hb : Below w.heap.size w wr := (by obtain ⟨m, rfl⟩ := hq.out; exact below_dr (Below.refl _ _) m)
    by_cases hlt : k < L.length
    · obtain ⟨x, hx⟩ : ∃ x, L[k]? = some x := ⟨L[k], List.getElem?_eq_getElem hlt⟩
      obtain ⟨b, off, rfl, hbl, c0⟩ := HC.out k x hx
      obtain ⟨b', off', rfl, hbl', d0⟩ := HC'.out k x hx
      replace c0 := (hb.cell (p := ⟨b, _, none⟩) hbl).trans c0
      replace d0 := (hb.cell (p := ⟨b', _, none⟩) hbl').trans d0
      clear hx
      go_wp2
      go_quiet (fail)
      go_wp2
      all_goals
        go_roundw
        case rel => exact ⟨k + 1, by omega, by go_num, drew_more hq _⟩
        case measure => simp [intOf]; omega
    · go_wp2
      go_ret
      exact ⟨rfl, hq.out⟩

set_option maxRecDepth 100000 in
set_option maxHeartbeats 1000000 in
theorem EqualA_quiet (v u : Value) (L : List EM.Ans) (w : World) (hv : RowsAt ansC 5 w v L) (hu : RowsAt ansC 5 w u L) :
    Calls Tryz.prog 29 #[v, u] w fun e w' => e = .returned (.bool true) ∧ ∃ m, w' = w.drewN m := by
  obtain ⟨p, cap, rfl, hl, _, hc⟩ := hv
  obtain ⟨p', cap', rfl, _, _, hc'⟩ := hu
  have HC := Lib.hid hc
  have HC' := Lib.hid hc'
  clear hc hc'
  go_enter Tryz.func29, Tryz.ntmps29
  go_wp2
  go_loopw [13] (fun i wr => ∃ k : Nat, k ≤ L.length ∧ i = .int .i64 k ∧ Hid (∃ m, wr = w.drewN m)) (fun i _ => L.length - (intOf i).toNat)
  case atStart => exact ⟨0, Nat.zero_le _, rfl, Lib.hid ⟨0, rfl⟩⟩
  case round =>
    obtain ⟨k, hk, rfl, hq⟩ := hrel
    have hb : Below w.heap.size w wr := (by obtain ⟨m, rfl⟩ := hq.out; exact below_dr (Below.refl _ _) m)
    by_cases hlt : k < L.length
    · obtain ⟨x, hx⟩ : ∃ x, L[k]? = some x := ⟨L[k], List.getElem?_eq_getElem hlt⟩
      obtain ⟨b, off, rfl, hbl, h0⟩ := HC.out k x hx
      obtain ⟨b', off', rfl, hbl', h1⟩ := HC'.out k x hx
      have c0 := (hb.cell (p := ⟨b, off + k * 5 + 0, none⟩) hbl).trans (h0 0 (by decide))
      have c1 := (hb.cell (p := ⟨b, off + k * 5 + 1, none⟩) hbl).trans (h0 1 (by decide))
      have c2 := (hb.cell (p := ⟨b, off + k * 5 + 2, none⟩) hbl).trans (h0 2 (by decide))
      have c3 := (hb.cell (p := ⟨b, off + k * 5 + 3, none⟩) hbl).trans (h0 3 (by decide))
      have c4 := (hb.cell (p := ⟨b, off + k * 5 + 4, none⟩) hbl).trans (h0 4 (by decide))
      have d0 := (hb.cell (p := ⟨b', off' + k * 5 + 0, none⟩) hbl').trans (h1 0 (by decide))
      have d1 := (hb.cell (p := ⟨b', off' + k * 5 + 1, none⟩) hbl').trans (h1 1 (by decide))
      have d2 := (hb.cell (p := ⟨b', off' + k * 5 + 2, none⟩) hbl').trans (h1 2 (by decide))
      have d3 := (hb.cell (p := ⟨b', off' + k * 5 + 3, none⟩) hbl').trans (h1 3 (by decide))
      have d4 := (hb.cell (p := ⟨b', off' + k * 5 + 4, none⟩) hbl').trans (h1 4 (by decide))
      simp only [ansC, List.getElem?_cons_zero, List.getElem?_cons_succ, Nat.add_zero] at c0 c1 c2 c3 c4 d0 d1 d2 d3 d4
      clear hx h0 h1
      go_wp2
      go_quiet (fail)
      go_wp2
      all_goals
        go_roundw
        case rel => exact ⟨k + 1, by omega, by go_num, drew_more hq _⟩
        case measure => simp [intOf]; omega
    · go_wp2
      go_ret
      exact ⟨rfl, hq.out⟩
end Go.Proofs.YthjaanhkmfiajacGreatDoor
