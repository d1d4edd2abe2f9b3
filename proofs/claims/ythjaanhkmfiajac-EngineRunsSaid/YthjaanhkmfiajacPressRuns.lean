/- The two counting functions of package press, runLength and literalLength: what they return. Condition: the text has at most 48 bytes. -/
import Derived.Test.YthjaanhkmfiajacRows
import Derived.Test.YthjaanhkmfiajacPure
import Derived.WalkKit
import Derived.Deep.QuietTactic
import Derived.BigQuiet
import Derived.IntWalk
import Derived.Lib.Hide
import Derived.Outline
namespace Go.Proofs.Ythjaanhkmfiajac
open Go.RowKit PM

theorem get_eq (s : ByteArray) (k : Nat) (h : k < s.size) : s.data.toList[k]? = some s[k] := by
  rw [List.getElem?_eq_getElem (by simpa using h)]; rfl

theorem head_eq (s : ByteArray) (h : 0 < s.size) : s.data.toList.headD 0 = s[0] := by
  have := get_eq s 0 h
  cases hl : s.data.toList with
  | nil => rw [hl] at this; simp at this
  | cons c t => rw [hl] at this; simpa using this

theorem byte_eq {a b : UInt8} (h : ((a.toNat : Int) == (b.toNat : Int)) = true) : a = b := by
  have : (a.toNat : Int) = b.toNat := by simpa using h
  exact UInt8.toNat.inj (by omega)
theorem byte_ne {a b : UInt8} (h : ((a.toNat : Int) == (b.toNat : Int)) = false) : a ≠ b := by
  intro e; subst e; simp at h

theorem index_at (s : ByteArray) (n : Nat) (z : Int) (hz : z.toNat = n) (h0 : 0 ≤ z) (hn : n < s.size) (W : World) :
    (Instr.index 9 (.string s) (.int .i64 z)).run Try.prog W = .ok (.int .u8 (s[n].toNat : Int)) W := by
  subst hz
  rw [run_index_string W 9 s .i64 z Try.underlying9, dif_pos ⟨h0, by omega⟩]

theorem runs_go {s : ByteArray} {k : Nat} (hlt : k < s.size) (h0 : 0 < s.size) (hall : ∀ j, j < k → s.data.toList[j]? = some (s.data.toList.headD 0)) (h : ((s[k].toNat : Int) == (s[0].toNat : Int)) = true) :
    ∀ j, j < k + 1 → s.data.toList[j]? = some (s.data.toList.headD 0) := by
  intro j hj
  by_cases hjk : j < k
  · exact hall j hjk
  · obtain rfl : j = k := by omega
    rw [get_eq s j hlt, head_eq s h0, byte_eq h]

theorem runs_end {s : ByteArray} {k : Nat} (hk : k ≤ s.size) (hall : ∀ j, j < k → s.data.toList[j]? = some (s.data.toList.headD 0)) (h : ∀ (hlt : k < s.size) (h0 : 0 < s.size), ((s[k].toNat : Int) == (s[0].toNat : Int)) = false) :
    rl s.data.toList = k := by
  refine lead_at _ _ k (by simpa using hk) hall (fun hlt => ?_)
  have hlt' : k < s.size := by simpa using hlt
  rw [get_eq s k hlt', head_eq s (by omega)]
  intro e
  exact byte_ne (h hlt' (by omega)) (by simpa using e)

set_option maxRecDepth 100000 in
theorem runLength_any (s : ByteArray) (hs : s.size ≤ 48) (w : World) :
    Calls Try.prog 89 #[.string s] w fun e w' => e = .returned (.int .i64 (rl s.data.toList)) ∧ Below w.heap.size w w' := by
  go_enter Try.func89, Try.ntmps89
  go_wp2
  go_loopw [3] (fun i wr => ∃ k : Nat, k ≤ s.size ∧ i = .int .i64 k ∧ (∀ j, j < k → s.data.toList[j]? = some (s.data.toList.headD 0)) ∧ Below w.heap.size w wr) (fun i _ => s.size - (intOf i).toNat)
  case atStart => exact ⟨0, Nat.zero_le _, rfl, fun j hj => absurd hj (by omega), Below.refl _ _⟩
  case round =>
    obtain ⟨k, hk, rfl, hall, hb⟩ := hrel
    have HA := Lib.hid hall
    clear hall
    by_cases hlt : k < s.size
    · have hk130 : decide ((k : Int) < 130) = true := by simp; omega
      have h0 : 0 < s.size := by omega
      go_wp2
      go_quiet (fail)
      go_wp2
      · go_roundw
        case rel => exact ⟨k + 1, by omega, by go_num, runs_go hlt h0 HA.out (by assumption), below_dr hb _⟩
        case measure => simp [intOf]; omega
      · go_ret
        exact ⟨ret_nat (runs_end hk HA.out (fun _ _ => by assumption)).symm, below_dr hb _⟩
    · have hd : decide (k < s.size) = false := by simpa using hlt
      go_wp2
      go_quiet (fail)
      go_wp2
      go_ret
      exact ⟨ret_nat (runs_end hk HA.out (fun h _ => absurd h hlt)).symm, below_dr hb _⟩

/-- s from k on -/
theorem extract_size (s : ByteArray) (k : Nat) : (s.extract k s.size).size = s.size - k := by simp [ByteArray.size_extract]
theorem len_eq (s : ByteArray) : s.data.toList.length = s.size := Array.length_toList
theorem drop_take (s : ByteArray) (k : Nat) : List.take (s.size - k) (List.drop k s.data.toList) = List.drop k s.data.toList := List.take_of_length_le (by rw [List.length_drop, len_eq]; omega)
theorem extract_from (s : ByteArray) (k : Nat) : (s.extract k s.size).data.toList = s.data.toList.drop k := by
  have : (s.extract k s.size).data = s.data.extract k s.size := by simp
  rw [this, Array.toList_extract]
  simp only [List.extract]
  exact drop_take s k

theorem lits_go {l : List UInt8} {k : Nat} (hall : ∀ j, 1 ≤ j → j < k → rl (l.drop j) < 3) (h : rl (l.drop k) < 3) : ∀ j, 1 ≤ j → j < k + 1 → rl (l.drop j) < 3 := by
  intro j hj1 hj
  by_cases hjk : j < k
  · exact hall j hj1 hjk
  · obtain rfl : j = k := by omega
    exact h

theorem lits_end {l : List UInt8} {k : Nat} (h1 : 1 ≤ k) (hk : k ≤ l.length) (hall : ∀ j, 1 ≤ j → j < k → rl (l.drop j) < 3) (h : k < l.length → ¬ rl (l.drop k) < 3) : lit l.tail + 1 = k := by
  have : lit l.tail = k - 1 := by
    refine lit_at _ (k - 1) (by simp; omega) (fun j hj => ?_) (fun hlt => ?_)
    · rw [← List.drop_one, List.drop_drop]; exact hall (1 + j) (by omega) (by omega)
    · rw [← List.drop_one, List.drop_drop, show 1 + (k - 1) = k by omega]; exact h (by simp at hlt; omega)
  omega

set_option maxRecDepth 100000 in
theorem literalLength_any (s : ByteArray) (hs : s.size ≤ 48) (h0 : 0 < s.size) (w : World) :
    Calls Try.prog 90 #[.string s] w fun e w' => e = .returned (.int .i64 ((lit s.data.toList.tail + 1 : Nat) : Int)) ∧ Below w.heap.size w w' := by
  go_enter Try.func90, Try.ntmps90
  go_wp2
  go_loopw [3] (fun i wr => ∃ k : Nat, 1 ≤ k ∧ k ≤ s.size ∧ i = .int .i64 k ∧ (∀ j, 1 ≤ j → j < k → rl (s.data.toList.drop j) < 3) ∧ Below w.heap.size w wr) (fun i _ => s.size - (intOf i).toNat)
  case atStart => exact ⟨1, Nat.le_refl _, h0, rfl, fun j h1 hj => absurd hj (by omega), Below.refl _ _⟩
  case round =>
    obtain ⟨k, hk1, hk, rfl, hall, hb⟩ := hrel
    have HA := Lib.hid hall
    clear hall
    by_cases hlt : k < s.size
    · have hx := extract_size s k
      have hxs : (s.extract k s.size).size ≤ 48 := by omega
      have HX := Lib.hid hx
      clear hx
      have hlt' : decide ((k : Int) < (s.size : Int)) = true := by simpa using hlt
      have hk130 : decide ((k : Int) < 128) = true := by simp; omega
      go_wp2_with (go_at_call 89; refine (runLength_any _ (by first | assumption | omega) _).mono ?_; rintro e w1 ⟨rfl, hb1⟩; have hb2 := hb.trans (hb1.mono hb.size))
      · have hlt3 : (rl (List.take (s.size - k) (List.drop k s.data.toList)) : Int) < 3 := by assumption
        rw [drop_take] at hlt3
        go_roundw
        case rel => exact ⟨k + 1, by omega, by omega, by go_num, lits_go HA.out (by omega), hb2⟩
        case measure => simp [intOf]; omega
      · have hge3 : ¬ (rl (List.take (s.size - k) (List.drop k s.data.toList)) : Int) < 3 := by omega
        rw [drop_take] at hge3
        go_ret
        exact ⟨ret_nat (lits_end hk1 (by rw [len_eq]; exact hk) HA.out (fun _ => by omega)).symm, hb2⟩
    · have hlt' : decide ((k : Int) < (s.size : Int)) = false := by simpa using hlt
      go_wp2
      go_ret
      exact ⟨ret_nat (lits_end hk1 (by rw [len_eq]; exact hk) HA.out (fun h => absurd (by rw [len_eq] at h; exact h) hlt)).symm, hb⟩

end Go.Proofs.Ythjaanhkmfiajac
