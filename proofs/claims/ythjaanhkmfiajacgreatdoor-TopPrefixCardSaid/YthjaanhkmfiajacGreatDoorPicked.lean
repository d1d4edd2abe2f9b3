/- The statements' own picked: a number from 0 to many - 1. Condition: many is positive. -/
import Derived.Test.YthjaanhkmfiajacGreatDoorRows
import Derived.Test.YthjaanhkmfiajacGreatDoorPure
import Derived.WalkKit
import Derived.IntWalk
import Derived.Lib.Hide
namespace Go.Proofs.YthjaanhkmfiajacGreatDoor
open Go.RowKit

def pick (n m : Int) : Int := (if n < 0 then -(n + 1) else n) % m
theorem pick_bd (n m : Int) (h : 0 < m) : 0 ≤ pick n m ∧ pick n m < m := ⟨Int.emod_nonneg _ (by omega), Int.emod_lt_of_pos _ h⟩
theorem pick_neg {n m : Int} (h : n < 0) : pick n m = (-(n + 1)) % m := by unfold pick; rw [if_pos h]
theorem pick_pos {n m : Int} (h : ¬ n < 0) : pick n m = n % m := by unfold pick; rw [if_neg h]
theorem picked_any (n m : Int) (hn : -9223372036854775808 ≤ n ∧ n ≤ 9223372036854775807) (hm : 0 < m ∧ m ≤ 140737488355329) (w : World) :
    Calls Tryz.prog 13 #[.int .i64 n, .int .i64 m] w fun e w' => e = .returned (.int .i64 (pick n m)) ∧ w = w' := by
  obtain ⟨hn1, hn2⟩ := hn
  obtain ⟨hm1, hm2⟩ := hm
  have hmz : (m == 0) = false := by simp; omega
  by_cases h : n < 0
  · have e := pick_neg (m := m) h
    have E := Lib.hid e
    clear e
    have h1 : 0 ≤ -(n + 1) := by omega
    have h2 : -(n + 1) ≤ 9223372036854775807 := by omega
    go_enter Tryz.func13, Tryz.ntmps13
    go_wp2
    go_ret
    exact ⟨ret_int (by rw [E.out, ← Int.neg_tmod, Int.tmod_eq_emod_of_nonneg h1]), rfl⟩
  · have e := pick_pos (m := m) h
    have E := Lib.hid e
    clear e
    go_enter Tryz.func13, Tryz.ntmps13
    go_wp2
    go_ret
    exact ⟨ret_int E.out.symm, rfl⟩
end Go.Proofs.YthjaanhkmfiajacGreatDoor
