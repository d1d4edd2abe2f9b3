/- The statements' own Data: the data of raw numbers; of it are told its length, that its first byte is no 'n', and that its packed form is short and bears no 'r'. No condition but that the numbers are ints. -/
import Derived.Test.YthjaanhkmfiajacGreatDoorPicked
import Derived.Test.YthjaanhkmfiajacGreatDoorPure
import Derived.Test.YthjaanhkmfiajacGreatDoorRows
import Derived.Test.YthjaanhkmfiajacGreatDoorShelf
import Derived.Lib.ItoaLen
import Derived.WalkKit
import Derived.IntWalk
import Derived.Lib.Hide
namespace Go.Proofs.YthjaanhkmfiajacGreatDoor
open Go.RowKit

def I64 (n : Int) : Prop := -9223372036854775808 ≤ n ∧ n ≤ 9223372036854775807
structure Rw where
  kind : Int
  a : Int
  b : Int
  c : Int
structure RwOk (r : Rw) : Prop where
  a : I64 r.a
  b : I64 r.b
  c : I64 r.c
  kind : I64 r.kind
def rwV (r : Rw) : Value := .agg #[.int .i64 r.kind, .int .i64 r.a, .int .i64 r.b, .int .i64 r.c]
/-- what is told of data -/
def DataOk (d : ByteArray) : Prop := d.size ≤ 48 ∧ d.data[0]? ≠ some 110

/-- what is told of data's packed form -/
structure TinyD (d : ByteArray) : Prop where
  len : (PM.enc d.data.toList).length ≤ 15
  no : (114 : UInt8) ∉ PM.enc d.data.toList
theorem tiny_small {d : ByteArray} (h : d.size ≤ 14) (hno : ∀ b ∈ d.data.toList, b ≠ 114) : TinyD d := by
  have hl : d.data.toList.length = d.size := Array.length_toList
  refine ⟨by have := (PM.enc_len1 _ d.data.toList rfl).1; omega, fun hm => ?_⟩
  rcases LM.enc_mem _ d.data.toList rfl (by omega) _ hm with h1 | h1 | h1
  · exact hno _ h1 rfl
  · exact absurd h1 (by decide)
  · rw [hl] at h1
    have h2 : (114 : UInt8).toNat = 114 := rfl
    omega
theorem tiny_run {d : ByteArray} {k : Nat} (h : d.data.toList = List.replicate k 122) (hk : k ≤ 40) : TinyD d := by
  have hl : d.data.toList.length = d.size := Array.length_toList
  by_cases h3 : 3 ≤ k
  · have he := PM.enc_rep 122 k h3
    rw [← h] at he
    refine ⟨by rw [he]; simp, fun hm => ?_⟩
    rw [he] at hm
    simp only [List.mem_cons, List.not_mem_nil, or_false] at hm
    rcases hm with h1 | h1
    · have := LM.ofNat_inj (a := 114) (by omega) (by omega) h1
      omega
    · exact absurd h1 (by decide)
  · refine tiny_small ?_ ?_
    · rw [← hl, h, List.length_replicate]; omega
    · intro b hb
      rw [h] at hb
      rw [List.eq_of_mem_replicate hb]
      decide
theorem app_mem {s d : ByteArray} (hs : ∀ b ∈ s.data.toList, b ≠ 114) (hd : ∀ b ∈ d.data.toList, b ≠ 114) : ∀ b ∈ (s ++ d).data.toList, b ≠ 114 := by
  intro b hb
  rw [ByteArray.data_append, Array.toList_append, List.mem_append] at hb
  exact hb.elim (hs b) (hd b)
theorem dig_mem : ∀ (k : Nat), ∀ b ∈ Lib.decDigits k, b.toNat < 58 := by
  intro k
  induction k using Nat.strongRecOn with
  | ind k ih =>
    intro b hb
    rw [Lib.decDigits] at hb
    by_cases h : k < 10
    · rw [dif_pos h, List.mem_singleton] at hb
      rw [hb, LM.toNat_of (by omega)]
      omega
    · rw [dif_neg h, List.mem_append, List.mem_singleton] at hb
      rcases hb with hb | hb
      · exact ih (k / 10) (by omega) b hb
      · rw [hb, LM.toNat_of (by omega)]
        omega
theorem repL_one (c : UInt8) : ∀ k, Lib.repeatL [c] k = List.replicate k c
  | 0 => rfl
  | k + 1 => by rw [Lib.repeatL, repL_one c k]; rfl

theorem dig_len (k : Nat) (h : k < 40) : (Lib.decDigits k).length ≤ 2 := by
  rw [Lib.decDigits_length]
  by_cases h1 : k < 10
  · rw [Lib.nDigits_small h1]; omega
  · rw [Lib.nDigits_big h1, Lib.nDigits_small (by omega)]; omega
theorem ok_of {d : ByteArray} {b : UInt8} (h : d.size ≤ 48) (h0 : d.data[0]? = some b) (hb : b ≠ 110) : DataOk d := ⟨h, by rw [h0]; simpa using hb⟩
theorem ok_app {s d : ByteArray} {b : UInt8} (h : s.size + d.size ≤ 48) (h0 : s.data[0]? = some b) (hb : b ≠ 110) : DataOk (s ++ d) := by
  refine ok_of (b := b) (by rw [ByteArray.size_append]; exact h) ?_ hb
  have hp : 0 < s.data.size := (Array.getElem?_eq_some_iff.1 h0).1
  rw [ByteArray.data_append, Array.getElem?_append_left hp]
  exact h0
theorem rep_size (s : ByteArray) (k : Nat) : (⟨(Lib.repeatL s.data.toList k).toArray⟩ : ByteArray).size = k * s.size := by
  show (Lib.repeatL s.data.toList k).toArray.size = _
  rw [List.size_toArray, Lib.repeatL_length]
  rfl
theorem pick_nat (n m : Int) (h : 0 < m) : ∃ k : Nat, pick n m = (k : Int) ∧ (k : Int) < m := ⟨(pick n m).toNat, by have := pick_bd n m h; omega, by have := pick_bd n m h; omega⟩

theorem rep_any (c : UInt8) (hc : c ≠ 110) (k : Nat) (hk : k ≤ 40) (w : World) : Calls Tryz.prog 39 #[.string ⟨#[c]⟩, .int .i64 (k : Int)] w fun e w' => ∃ d : ByteArray, e = .returned (.string d) ∧ d.size ≤ 40 ∧ d.data[0]? ≠ some 110 ∧ (k ≤ 9 → d.size ≤ 9) ∧ d.data.toList = List.replicate k c ∧ Below w.heap.size w w' := by
  have h := Tryz.strings_Repeat ⟨#[c]⟩ k w (by omega) (by show 1 * k ≤ _; omega)
  refine h.mono ?_
  rintro e w' ⟨rfl, hb⟩
  have hs : (⟨(Lib.repeatL (⟨#[c]⟩ : ByteArray).data.toList k).toArray⟩ : ByteArray).size = k := by rw [rep_size]; show k * 1 = k; omega
  refine ⟨_, rfl, by rw [hs]; omega, ?_, (fun h9 => by rw [hs]; exact h9), repL_one c k, hb⟩
  cases k with
  | zero => intro h; exact absurd h (by simp [Lib.repeatL])
  | succ k => intro h; simp [Lib.repeatL] at h; exact hc h
theorem itoa_any (k : Nat) (hk : k < 40) (w : World) : Calls Tryz.prog 40 #[.int .i64 (k : Int)] w fun e w' => ∃ d : ByteArray, e = .returned (.string d) ∧ d.size ≤ 2 ∧ (∀ b ∈ d.data.toList, b ≠ 114) ∧ w' = w := by
  refine (Tryz.strconv_Itoa_small k (by omega) w).mono ?_
  rintro e w' ⟨rfl, rfl⟩
  exact ⟨_, rfl, dig_len k hk, (fun b hb h => by have := dig_mem k b hb; rw [h] at this; exact absurd this (by decide)), rfl⟩

def DataRet (w : World) (e : Ending) (w' : World) : Prop := ∃ d : ByteArray, e = .returned (.string d) ∧ (DataOk d ∧ TinyD d) ∧ Below w.heap.size w w'

set_option maxRecDepth 100000 in
set_option maxHeartbeats 1600000 in
theorem Data_any (r : Rw) (hr : RwOk r) (w : World) : Calls Tryz.prog 28 #[rwV r] w (DataRet w) := by
  obtain ⟨ka, hka, ha6⟩ := pick_nat r.a 6 (by omega)
  obtain ⟨k40, hk40, h40⟩ := pick_nat r.b 40 (by omega)
  obtain ⟨k9, hk9, h9⟩ := pick_nat r.b 9 (by omega)
  obtain ⟨k4, hk4, h4⟩ := pick_nat r.b 4 (by omega)
  obtain ⟨k, ra, rb, c⟩ := r
  obtain ⟨ha, hb, _⟩ := hr
  have H40 := Lib.hid hk40
  have H9 := Lib.hid hk9
  have H4 := Lib.hid hk4
  clear hk40 hk9 hk4
  show Calls Tryz.prog 28 #[.agg #[.int .i64 k, .int .i64 ra, .int .i64 rb, .int .i64 c]] w _
  have hcases : ka = 0 ∨ ka = 1 ∨ ka = 2 ∨ ka = 3 ∨ ka = 4 ∨ ka = 5 := by omega
  have HKA := Lib.hid hka
  have HA := Lib.hid ha
  have HB := Lib.hid hb
  clear hka ha hb
  rcases hcases with rfl | rfl | rfl | rfl | rfl | rfl
  all_goals
    go_enter Tryz.func28, Tryz.ntmps28
    go_wp2_with (first
      | (go_at_call 13; refine (picked_any _ _ (by first | exact HA.out | exact HB.out) (by omega) _).mono ?_; (first | rw [HKA.out] | rw [H40.out] | rw [H9.out] | rw [H4.out]); rintro e w1 ⟨rfl, rfl⟩)
      | (go_at_call 39; refine (rep_any _ (by decide) _ (by omega) _).mono ?_; rintro e w2 ⟨d, rfl, hd, hd0, hd9, hdl, hb2⟩)
      | (go_at_call 40; refine (itoa_any _ (by omega) _).mono ?_; rintro e w2 ⟨d, rfl, hd, hdm, rfl⟩))
  all_goals go_ret
  · exact ⟨_, rfl, ⟨⟨by decide, by decide⟩, tiny_small (by decide) (by simp)⟩, below_alloc (Below.refl _ _) _⟩
  · exact ⟨_, rfl, ⟨⟨by omega, hd0⟩, tiny_run hdl (by omega)⟩, below_then (below_alloc (Below.refl _ _) _) hb2⟩
  · refine ⟨_, rfl, ⟨?_, ?_⟩, below_then (below_alloc (Below.refl _ _) _) hb2⟩
    · have h2 := hd9 (by omega)
      refine ok_of (b := 97) ?_ ?_ (by decide)
      · rw [ByteArray.size_append, ByteArray.size_append]
        show 3 + d.size + 3 ≤ 48
        omega
      · rw [ByteArray.data_append, ByteArray.data_append, Array.getElem?_append_left (by rw [Array.size_append]; show 0 < 3 + _; omega), Array.getElem?_append_left (by decide)]
        rfl
    · have h2 : d.size = k9 := by
        have hl : d.data.toList.length = d.size := Array.length_toList
        rw [← hl, hdl, List.length_replicate]
      refine tiny_small ?_ (app_mem (app_mem (by decide) ?_) (by decide))
      · rw [ByteArray.size_append, ByteArray.size_append]
        show 3 + d.size + 3 ≤ 14
        omega
      · intro b hb
        rw [hdl] at hb
        rw [List.eq_of_mem_replicate hb]
        decide
  · exact ⟨_, rfl, ⟨ok_app (b := 98) (by show 6 + d.size ≤ 48; omega) rfl (by decide), tiny_small (by rw [ByteArray.size_append]; show 6 + d.size ≤ 14; omega) (app_mem (by decide) hdm)⟩, below_alloc (Below.refl _ _) _⟩
  · exact ⟨_, rfl, ⟨ok_app (b := 115) (by show 5 + d.size ≤ 48; omega) rfl (by decide), tiny_small (by rw [ByteArray.size_append]; show 5 + d.size ≤ 14; omega) (app_mem (by decide) hdm)⟩, below_alloc (Below.refl _ _) _⟩
  · exact ⟨_, rfl, ⟨ok_app (b := 115) (by show 5 + d.size ≤ 48; omega) rfl (by decide), tiny_small (by rw [ByteArray.size_append]; show 5 + d.size ≤ 14; omega) (app_mem (by decide) hdm)⟩, below_alloc (Below.refl _ _) _⟩
end Go.Proofs.YthjaanhkmfiajacGreatDoor
