/- The statements' own Data: the data of raw numbers; of it are told its length and that its first byte is no 'n'. No condition but that the numbers are ints. -/
import Derived.Test.YtajjhjabehiikabDoorPicked
import Derived.Test.YtajjhjabehiikabDoorPure
import Derived.Test.YtajjhjabehiikabDoorRows
import Derived.Test.YtajjhjabehiikabDoorShelf
import Derived.Lib.ItoaLen
import Derived.WalkKit
import Derived.IntWalk
import Derived.Lib.Hide
namespace Go.Proofs.YtajjhjabehiikabDoor
open Go.RowKit

def I64 (n : Int) : Prop := -9223372036854775808 ≤ n ∧ n ≤ 9223372036854775807
structure Rw where
  kind : Int
  a : Int
  b : Int
  c : Int
structure RwOk (r : Rw) : Prop where
  a : I64 r.a
  b : I64 r.b
  c : I64 r.c
def rwV (r : Rw) : Value := .agg #[.int .i64 r.kind, .int .i64 r.a, .int .i64 r.b, .int .i64 r.c]
/-- what is told of data -/
def DataOk (d : ByteArray) : Prop := d.size ≤ 48 ∧ d.data[0]? ≠ some 110

theorem dig_len (k : Nat) (h : k < 40) : (Lib.decDigits k).length ≤ 2 := by
  rw [Lib.decDigits_length]
  by_cases h1 : k < 10
  · rw [Lib.nDigits_small h1]; omega
  · rw [Lib.nDigits_big h1, Lib.nDigits_small (by omega)]; omega
theorem ok_of {d : ByteArray} {b : UInt8} (h : d.size ≤ 48) (h0 : d.data[0]? = some b) (hb : b ≠ 110) : DataOk d := ⟨h, by rw [h0]; simpa using hb⟩
theorem ok_app {s d : ByteArray} {b : UInt8} (h : s.size + d.size ≤ 48) (h0 : s.data[0]? = some b) (hb : b ≠ 110) : DataOk (s ++ d) := by
  refine ok_of (b := b) (by rw [ByteArray.size_append]; exact h) ?_ hb
  have hp : 0 < s.data.size := (Array.getElem?_eq_some_iff.1 h0).1
  rw [ByteArray.data_append, Array.getElem?_append_left hp]
  exact h0
theorem rep_size (s : ByteArray) (k : Nat) : (⟨(Lib.repeatL s.data.toList k).toArray⟩ : ByteArray).size = k * s.size := by
  show (Lib.repeatL s.data.toList k).toArray.size = _
  rw [List.size_toArray, Lib.repeatL_length]
  rfl
theorem pick_nat (n m : Int) (h : 0 < m) : ∃ k : Nat, pick n m = (k : Int) ∧ (k : Int) < m := ⟨(pick n m).toNat, by have := pick_bd n m h; omega, by have := pick_bd n m h; omega⟩

theorem rep_any (c : UInt8) (hc : c ≠ 110) (k : Nat) (hk : k ≤ 40) (w : World) : Calls Tryd.prog 22 #[.string ⟨#[c]⟩, .int .i64 (k : Int)] w fun e w' => ∃ d : ByteArray, e = .returned (.string d) ∧ d.size ≤ 40 ∧ d.data[0]? ≠ some 110 ∧ (k ≤ 9 → d.size ≤ 9) ∧ Below w.heap.size w w' := by
  have h := Tryd.strings_Repeat ⟨#[c]⟩ k w (by omega) (by show 1 * k ≤ _; omega)
  refine h.mono ?_
  rintro e w' ⟨rfl, hb⟩
  have hs : (⟨(Lib.repeatL (⟨#[c]⟩ : ByteArray).data.toList k).toArray⟩ : ByteArray).size = k := by rw [rep_size]; show k * 1 = k; omega
  refine ⟨_, rfl, by rw [hs]; omega, ?_, (fun h9 => by rw [hs]; exact h9), hb⟩
  cases k with
  | zero => intro h; exact absurd h (by simp [Lib.repeatL])
  | succ k => intro h; simp [Lib.repeatL] at h; exact hc h
theorem itoa_any (k : Nat) (hk : k < 40) (w : World) : Calls Tryd.prog 55 #[.int .i64 (k : Int)] w fun e w' => ∃ d : ByteArray, e = .returned (.string d) ∧ d.size ≤ 2 ∧ w' = w := by
  refine (Tryd.strconv_Itoa_small k (by omega) w).mono ?_
  rintro e w' ⟨rfl, rfl⟩
  exact ⟨_, rfl, dig_len k hk, rfl⟩

def DataRet (w : World) (e : Ending) (w' : World) : Prop := ∃ d : ByteArray, e = .returned (.string d) ∧ DataOk d ∧ Below w.heap.size w w'

set_option maxRecDepth 100000 in
set_option maxHeartbeats 1600000 in
theorem Data_any (r : Rw) (hr : RwOk r) (w : World) : Calls Tryd.prog 34 #[rwV r] w (DataRet w) := by
  obtain ⟨ka, hka, ha6⟩ := pick_nat r.a 6 (by omega)
  obtain ⟨k40, hk40, h40⟩ := pick_nat r.b 40 (by omega)
  obtain ⟨k9, hk9, h9⟩ := pick_nat r.b 9 (by omega)
  obtain ⟨k4, hk4, h4⟩ := pick_nat r.b 4 (by omega)
  obtain ⟨k, ra, rb, c⟩ := r
  obtain ⟨ha, hb, _⟩ := hr
  have H40 := Lib.hid hk40
  have H9 := Lib.hid hk9
  have H4 := Lib.hid hk4
  clear hk40 hk9 hk4
  show Calls Tryd.prog 34 #[.agg #[.int .i64 k, .int .i64 ra, .int .i64 rb, .int .i64 c]] w _
  have hcases : ka = 0 ∨ ka = 1 ∨ ka = 2 ∨ ka = 3 ∨ ka = 4 ∨ ka = 5 := by omega
  have HKA := Lib.hid hka
  have HA := Lib.hid ha
  have HB := Lib.hid hb
  clear hka ha hb
  rcases hcases with rfl | rfl | rfl | rfl | rfl | rfl
  all_goals
    go_enter Tryd.func34, Tryd.ntmps34
    go_wp2_with (first
      | (go_at_call 9; refine (picked_any _ _ (by first | exact HA.out | exact HB.out) (by omega) _).mono ?_; (first | rw [HKA.out] | rw [H40.out] | rw [H9.out] | rw [H4.out]); rintro e w1 ⟨rfl, rfl⟩)
      | (go_at_call 22; refine (rep_any _ (by decide) _ (by omega) _).mono ?_; rintro e w2 ⟨d, rfl, hd, hd0, hd9, hb2⟩)
      | (go_at_call 55; refine (itoa_any _ (by omega) _).mono ?_; rintro e w2 ⟨d, rfl, hd, rfl⟩))
  all_goals go_ret
  · exact ⟨_, rfl, ⟨by decide, by decide⟩, below_alloc (Below.refl _ _) _⟩
  · exact ⟨_, rfl, ⟨by omega, hd0⟩, below_then (below_alloc (Below.refl _ _) _) hb2⟩
  · refine ⟨_, rfl, ?_, below_then (below_alloc (Below.refl _ _) _) hb2⟩
    have h2 := hd9 (by omega)
    refine ok_of (b := 97) ?_ ?_ (by decide)
    · rw [ByteArray.size_append, ByteArray.size_append]
      show 3 + d.size + 3 ≤ 48
      omega
    · rw [ByteArray.data_append, ByteArray.data_append, Array.getElem?_append_left (by rw [Array.size_append]; show 0 < 3 + _; omega), Array.getElem?_append_left (by decide)]
      rfl
  · exact ⟨_, rfl, ok_app (b := 98) (by show 6 + d.size ≤ 48; omega) rfl (by decide), below_alloc (Below.refl _ _) _⟩
  · exact ⟨_, rfl, ok_app (b := 115) (by show 5 + d.size ≤ 48; omega) rfl (by decide), below_alloc (Below.refl _ _) _⟩
  · exact ⟨_, rfl, ok_app (b := 115) (by show 5 + d.size ≤ 48; omega) rfl (by decide), below_alloc (Below.refl _ _) _⟩
end Go.Proofs.YtajjhjabehiikabDoor
