/- The plain mathematics of items, volumes, writes, logs and engines, and rows that a call owns: texts merged into one. No condition but those in the statements. -/
import Derived.Test.YthjaanhkmfiajacRows
import Derived.WalkKit
import Derived.Laws.IdiomStrings
import Derived.Laws.Concat
import Derived.Test.YthjaanhkmfiajacPressEncode
import Derived.Test.YthjaanhkmfiajacLogPair
import Derived.Test.YthjaanhkmfiajacLogRecord
import Derived.Test.YthjaanhkmfiajacRefVols
/- Small facts on strings at this translation: slices by a byte, texts of one or two bytes, concatenation. Conditions: those in the statements. -/
namespace Go.Proofs.Ythjaanhkmfiajac
open Go.RowKit

theorem slice_at (s : ByteArray) (i : Nat) (hi : i < s.size) (W : World) :
    (Instr.slice 9 (.string s) (some (.int .i64 (i : Int))) (some (.int .i64 ((i : Int) + 1))) none).run Try.prog W = .ok (.string (s.extract i (i + 1))) W := by
  rw [run_slice_string W 9 s .i64 .i64 _ _ Try.underlying9 (by omega) (by omega) (by omega)]
  rw [show ((i : Int) + 1).toNat = i + 1 by omega, show ((i : Int)).toNat = i by omega]

/-- 'string([]byte{c})' -/
theorem conv_one (z : Int) (c : UInt8) (hz : z = c.toNat) (W : World) :
    (convert 91 9 (.slice (some ⟨W.heap.size, 0, none⟩) 1 1)).run Try.prog (W.alloc (.cells #[.int .u8 z] 5)) = .ok (.string ⟨#[c]⟩) (W.alloc (.cells #[.int .u8 z] 5)) := by
  subst hz
  refine run_convert_bytes_back (P := Try.prog) _ 91 9 5 ⟨W.heap.size, 0, none⟩ 1 [c] Try.underlying91 Try.underlying5 Try.underlying9 ?_
  intro j hj
  match j, hj with
  | 0, _ => simp [Addr.add]

/-- 'string([]byte{c, d})' -/
theorem conv_two (z y : Int) (c d : UInt8) (hz : z = c.toNat) (hy : y = d.toNat) (W : World) :
    (convert 91 9 (.slice (some ⟨W.heap.size, 0, none⟩) 2 2)).run Try.prog (W.alloc (.cells #[.int .u8 z, .int .u8 y] 5)) = .ok (.string ⟨#[c, d]⟩) (W.alloc (.cells #[.int .u8 z, .int .u8 y] 5)) := by
  subst hz hy
  refine run_convert_bytes_back (P := Try.prog) _ 91 9 5 ⟨W.heap.size, 0, none⟩ 2 [c, d] Try.underlying91 Try.underlying5 Try.underlying9 ?_
  intro j hj
  match j, hj with
  | 0, _ => simp [Addr.add]
  | 1, _ => simp [Addr.add]

theorem conv_two_next (z y : Int) (c d : UInt8) (hz : z = c.toNat) (hy : y = d.toNat) (W : World) (o : Obj) :
    (convert 91 9 (.slice (some ⟨W.heap.size + 1, 0, none⟩) 2 2)).run Try.prog ((W.alloc o).alloc (.cells #[.int .u8 z, .int .u8 y] 5)) = .ok (.string ⟨#[c, d]⟩) ((W.alloc o).alloc (.cells #[.int .u8 z, .int .u8 y] 5)) := by
  have h := conv_two z y c d hz hy (W.alloc o)
  rw [show (W.alloc o).heap.size = W.heap.size + 1 by simp] at h
  exact h

theorem cat_eq (a b : ByteArray) : (a ++ b).data.toList = a.data.toList ++ b.data.toList := by simp

end Go.Proofs.Ythjaanhkmfiajac

/- The document's sames (what it returns, for a text of at most 48 bytes) and PackedOf: it returns what Pack returns. No condition for PackedOf. -/
namespace Go.Proofs.Ythjaanhkmfiajac
open Go.RowKit PM

/-- the run from i on: what the round does -/
theorem same_go {s : ByteArray} {i k : Nat} (hi : i < s.size) (hlt : i + k < s.size) (hall : ∀ j, j < k → (s.data.toList.drop i)[j]? = some ((s.data.toList.drop i).headD 0)) (h : ((s[i + k].toNat : Int) == (s[i].toNat : Int)) = true) :
    ∀ j, j < k + 1 → (s.data.toList.drop i)[j]? = some ((s.data.toList.drop i).headD 0) := by
  intro j hj
  by_cases hjk : j < k
  · exact hall j hjk
  · obtain rfl : j = k := by omega
    rw [List.getElem?_drop, get_eq s (i + j) hlt, byte_eq h]
    have h0 : (s.data.toList.drop i)[0]? = some s[i] := by rw [List.getElem?_drop]; exact get_eq s i hi
    cases hl : s.data.toList.drop i with
    | nil => rw [hl] at h0; simp at h0
    | cons c t => rw [hl] at h0; simp at h0; simp [h0]

theorem same_end {s : ByteArray} {i k : Nat} (hi : i < s.size) (hk : i + k ≤ s.size) (hall : ∀ j, j < k → (s.data.toList.drop i)[j]? = some ((s.data.toList.drop i).headD 0)) (h : ∀ hlt : i + k < s.size, ((s[i + k].toNat : Int) == (s[i].toNat : Int)) = false) :
    rl (s.data.toList.drop i) = k := by
  refine lead_at _ _ k (by rw [List.length_drop, len_eq]; omega) hall (fun hlt => ?_)
  have hlt' : i + k < s.size := by rw [List.length_drop, len_eq] at hlt; omega
  have h0 : (s.data.toList.drop i)[0]? = some s[i] := by rw [List.getElem?_drop]; exact get_eq s i hi
  rw [List.getElem?_drop, get_eq s (i + k) hlt']
  have h2 : (s.data.toList.drop i).headD 0 = s[i] := by
    cases hl : s.data.toList.drop i with
    | nil => rw [hl] at h0; simp at h0
    | cons c t => rw [hl] at h0; simp at h0; simp [h0]
  rw [h2]
  intro e
  exact byte_ne (h hlt') (by simpa using e)

set_option maxRecDepth 100000 in
theorem sames_any (s : ByteArray) (hs : s.size ≤ 48) (i : Nat) (hi : i < s.size) (w : World) :
    Calls Try.prog 68 #[.string s, .int .i64 i] w fun e w' => e = .returned (.int .i64 (rl (s.data.toList.drop i))) ∧ Below w.heap.size w w' := by
  go_enter Try.func68, Try.ntmps68
  go_wp2
  go_loopw [5] (fun n wr => ∃ k : Nat, i + k ≤ s.size ∧ n = .int .i64 k ∧ (∀ j, j < k → (s.data.toList.drop i)[j]? = some ((s.data.toList.drop i).headD 0)) ∧ Below w.heap.size w wr) (fun n _ => s.size - (intOf n).toNat)
  case atStart => exact ⟨0, by omega, rfl, fun j hj => absurd hj (by omega), Below.refl _ _⟩
  case round =>
    obtain ⟨k, hk, rfl, hall, hb⟩ := hrel
    have HA := Lib.hid hall
    clear hall
    have hk130 : decide ((k : Int) < 130) = true := by simp; omega
    by_cases hlt : i + k < s.size
    · have hd : decide ((i : Int) + (k : Int) < (s.size : Int)) = true := by simp; omega
      have hz : (0 : Int) ≤ (i : Int) + (k : Int) := by omega
      have hz2 : ((i : Int) + (k : Int)).toNat = i + k := by omega
      have hz3 : (i : Int) + (k : Int) < (s.size : Int) := by omega
      have hz4 := index_at s (i + k) ((i : Int) + (k : Int)) hz2 hz hlt
      have hw := IntWalk.i64_in ((i : Int) + (k : Int)) (by omega)
      go_wp2
      go_quiet (fail)
      go_wp2
      · go_roundw
        case rel => exact ⟨k + 1, by omega, by go_num, same_go hi hlt HA.out (by assumption), below_dr hb _⟩
        case measure => simp [intOf]; omega
      · go_ret
        exact ⟨ret_nat (same_end hi hk HA.out (fun _ => by assumption)).symm, below_dr hb _⟩
    · have hd : decide ((i : Int) + (k : Int) < (s.size : Int)) = false := by simp; omega
      have hw := IntWalk.i64_in ((i : Int) + (k : Int)) (by omega)
      go_wp2
      go_quiet (fail)
      go_wp2
      go_ret
      exact ⟨ret_nat (same_end hi hk HA.out (fun h => absurd h hlt)).symm, below_dr hb _⟩

def RefRel (s : ByteArray) (W0 : World) (a b c : Value) (wr : World) : Prop :=
  ∃ (o p : ByteArray) (i : Nat), a = .string o ∧ b = .string p ∧ c = .int .i64 i ∧ i ≤ s.size ∧ p.size ≤ i ∧
    o.data.toList ++ refGo p.data.toList (s.data.toList.drop i) = enc s.data.toList ∧ o.size ≤ 96 ∧ Below W0.heap.size W0 wr

theorem bound_of {s o : ByteArray} {y : List UInt8} (hs : s.size ≤ 48) (h : o.data.toList ++ y = enc s.data.toList) : o.size ≤ 96 := by
  have := enc_len2 _ s.data.toList rfl
  rw [← h, List.length_append, len_eq, len_eq] at this
  omega

theorem drop_ne {s : ByteArray} {i : Nat} (hi : i < s.size) : s.data.toList.drop i ≠ [] := by
  intro e
  have := congrArg List.length e
  rw [List.length_drop, len_eq] at this
  simp only [List.length_nil] at this
  omega

theorem drop_head {s : ByteArray} {i : Nat} (hi : i < s.size) : (s.data.toList.drop i).headD 0 = s[i] := by
  have h0 : (s.data.toList.drop i)[0]? = some s[i] := by rw [List.getElem?_drop]; exact get_eq s i hi
  cases hl : s.data.toList.drop i with
  | nil => rw [hl] at h0; simp at h0
  | cons c t => rw [hl] at h0; simp at h0; simp [h0]

theorem extract_one (s : ByteArray) (i : Nat) (hi : i < s.size) : (s.extract i (i + 1)).data.toList = [s[i]] := by
  have : (s.extract i (i + 1)).data = s.data.extract i (i + 1) := by simp
  rw [this, Array.toList_extract]
  simp only [List.extract]
  have h0 : (s.data.toList.drop i)[0]? = some s[i] := by rw [List.getElem?_drop]; exact get_eq s i hi
  cases hl : s.data.toList.drop i with
  | nil => rw [hl] at h0; simp at h0
  | cons c t => rw [hl] at h0; simp at h0; simp [h0]

theorem nil_of {p : ByteArray} (h : p.size = 0) : p.data.toList = [] := List.eq_nil_of_length_eq_zero (by rw [len_eq]; exact h)
theorem ne_of {p : ByteArray} (h : ¬ p.size = 0) : p.data.toList ≠ [] := by
  intro e
  have := congrArg List.length e
  rw [len_eq] at this
  exact h this

theorem ref_keep {s o p : ByteArray} {i : Nat} {W0 w1 : World} (hs : s.size ≤ 48) (hi : i < s.size) (hpi : p.size ≤ i) (hrun : ¬ 3 ≤ rl (s.data.toList.drop i))
    (hx : o.data.toList ++ refGo p.data.toList (s.data.toList.drop i) = enc s.data.toList) (hb : Below W0.heap.size W0 w1) :
    RefRel s W0 (.string o) (.string (p ++ s.extract i (i + 1))) (.int .i64 ((i : Int) + 1)) w1 := by
  have e : o.data.toList ++ refGo (p ++ s.extract i (i + 1)).data.toList (s.data.toList.drop (i + 1)) = enc s.data.toList := by
    rw [← hx, refGo_one (drop_ne hi) hrun, cat_eq, extract_one s i hi, drop_head hi, List.tail_drop]
  refine ⟨o, _, i + 1, rfl, rfl, by go_num, by omega, ?_, e, bound_of hs e, hb⟩
  rw [ByteArray.size_append, ByteArray.size_extract]; omega

theorem ref_run0 {s o p : ByteArray} {i : Nat} {W0 w1 : World} (hs : s.size ≤ 48) (hi : i < s.size) (hp : p.size = 0) (hrun : 3 ≤ rl (s.data.toList.drop i))
    (hx : o.data.toList ++ refGo p.data.toList (s.data.toList.drop i) = enc s.data.toList) (hb : Below W0.heap.size W0 w1) :
    RefRel s W0 (.string (o ++ ⟨#[UInt8.ofNat (125 + rl (s.data.toList.drop i)), s[i]]⟩)) (.string p) (.int .i64 ((i : Int) + (rl (s.data.toList.drop i) : Int))) w1 := by
  have hn := rl_le (s.data.toList.drop i)
  rw [List.length_drop, len_eq] at hn
  have e : (o ++ ⟨#[UInt8.ofNat (125 + rl (s.data.toList.drop i)), s[i]]⟩ : ByteArray).data.toList ++ refGo p.data.toList (s.data.toList.drop (i + rl (s.data.toList.drop i))) = enc s.data.toList := by
    rw [← hx, nil_of hp, refGo_run hrun, cat_eq, drop_head hi, flush_nil, List.drop_drop]; simp only [List.append_assoc, List.nil_append, List.cons_append]
  refine ⟨_, p, i + rl (s.data.toList.drop i), rfl, rfl, by go_num, by omega, by omega, e, bound_of hs e, hb⟩

theorem ref_run1 {s o p : ByteArray} {i : Nat} {W0 w1 : World} (hs : s.size ≤ 48) (hi : i < s.size) (hp : ¬ p.size = 0) (hrun : 3 ≤ rl (s.data.toList.drop i))
    (hx : o.data.toList ++ refGo p.data.toList (s.data.toList.drop i) = enc s.data.toList) (hb : Below W0.heap.size W0 w1) :
    RefRel s W0 (.string (o ++ ⟨#[UInt8.ofNat (p.size - 1)]⟩ ++ p ++ ⟨#[UInt8.ofNat (125 + rl (s.data.toList.drop i)), s[i]]⟩)) (.string ⟨#[]⟩) (.int .i64 ((i : Int) + (rl (s.data.toList.drop i) : Int))) w1 := by
  have hn := rl_le (s.data.toList.drop i)
  rw [List.length_drop, len_eq] at hn
  have e : (o ++ ⟨#[UInt8.ofNat (p.size - 1)]⟩ ++ p ++ ⟨#[UInt8.ofNat (125 + rl (s.data.toList.drop i)), s[i]]⟩ : ByteArray).data.toList ++ refGo (⟨#[]⟩ : ByteArray).data.toList (s.data.toList.drop (i + rl (s.data.toList.drop i))) = enc s.data.toList := by
    rw [← hx, refGo_run hrun, cat_eq, cat_eq, cat_eq, drop_head hi, flush_ne (ne_of hp), List.drop_drop, len_eq]; simp only [List.append_assoc, List.nil_append, List.cons_append]
  refine ⟨_, _, i + rl (s.data.toList.drop i), rfl, rfl, by go_num, by omega, Nat.zero_le _, e, bound_of hs e, hb⟩

theorem ref_end0 {s o p : ByteArray} {i : Nat} (hi : i ≤ s.size) (hlt : ¬ i < s.size) (hp : p.size = 0) (hx : o.data.toList ++ refGo p.data.toList (s.data.toList.drop i) = enc s.data.toList) : o.data.toList = enc s.data.toList := by
  rw [nil_of hp, List.drop_of_length_le (by rw [len_eq]; omega), refGo_nil, flush_nil, List.append_nil] at hx
  exact hx

theorem ref_end1 {s o p : ByteArray} {i : Nat} (hi : i ≤ s.size) (hlt : ¬ i < s.size) (hp : ¬ p.size = 0) (hx : o.data.toList ++ refGo p.data.toList (s.data.toList.drop i) = enc s.data.toList) : (o ++ ⟨#[UInt8.ofNat (p.size - 1)]⟩ ++ p : ByteArray).data.toList = enc s.data.toList := by
  rw [List.drop_of_length_le (by rw [len_eq]; omega), refGo_nil, flush_ne (ne_of hp), len_eq] at hx
  rw [← hx, cat_eq, cat_eq]; simp only [List.append_assoc, List.nil_append, List.cons_append]

theorem ret_same {o : ByteArray} {l : List UInt8} (h : o.data.toList = l) : Ending.returned (.tuple #[.string o, .int .i64 0]) = .returned (.tuple #[.string ⟨l.toArray⟩, .int .i64 0]) := by
  subst h; rfl

set_option maxRecDepth 100000 in
set_option maxHeartbeats 1000000 in
theorem PackedOf_any (s : ByteArray) (w : World) :
    Calls Try.prog 47 #[.string s] w fun e w' => e = .returned (packed s) ∧ Below w.heap.size w w' := by
  by_cases hs : s.size ≤ 48
  · have hp : packed s = .tuple #[.string ⟨(enc s.data.toList).toArray⟩, .int .i64 0] := if_pos hs
    rw [hp]
    clear hp
    go_enter Try.func47, Try.ntmps47
    go_wp2
    go_loopw [4, 5, 6] (fun a b c wr => RefRel s w a b c wr) (fun _ _ c _ => s.size + 1 - (intOf c).toNat)
    case atStart => exact ⟨⟨#[]⟩, ⟨#[]⟩, 0, rfl, rfl, rfl, Nat.zero_le _, Nat.le_refl _, refGo_enc _, Nat.zero_le _, Below.refl _ _⟩
    case round =>
      obtain ⟨o, p, i, rfl, rfl, rfl, hi, hpi, hx, hol, hb⟩ := hrel
      have HX := Lib.hid hx
      clear hx
      have h128 : ((p.size : Int) == 128) = false := by simp; omega
      have hlow : ¬ p.size = 0 → ((p.size : Int) - 1 = ((UInt8.ofNat (p.size - 1)).toNat : Int)) := fun h => by rw [u8_of _ (by omega)]; omega
      by_cases hlt : i < s.size
      · have hne : ((i : Int) == (s.size : Int)) = false := by simp; omega
        by_cases hrun : 3 ≤ rl (s.data.toList.drop i)
        · have hn := rl_le (s.data.toList.drop i)
          rw [List.length_drop, len_eq] at hn
          have htwo := two_ok (s.data.toList.drop i) (by omega)
          obtain ⟨c, hc⟩ : ∃ c, c = UInt8.ofNat (125 + rl (s.data.toList.drop i)) := ⟨_, rfl⟩
          rw [← hc] at htwo
          have HC := Lib.hid hc
          clear hc
          have hcv2 := conv_two _ _ c s[i] htwo rfl
          have hcv3 := conv_two_next _ _ c s[i] htwo rfl
          clear htwo
          by_cases hp0 : p.size = 0
          · clear hlow
            go_wp2_with (go_at_call 68; refine (sames_any _ hs i hlt _).mono ?_; rintro e w1 ⟨rfl, hb1⟩; have hb2 := hb.trans (hb1.mono hb.size))
            go_roundw
            case rel => rw [HC.out]; exact ref_run0 hs hlt hp0 hrun HX.out (hb2.alloc hb2.size _)
            case measure => simp [intOf]; omega
          · have hcv1 := conv_one _ _ (hlow hp0)
            clear hlow
            go_wp2_with (go_at_call 68; refine (sames_any _ hs i hlt _).mono ?_; rintro e w1 ⟨rfl, hb1⟩; have hb2 := hb.trans (hb1.mono hb.size))
            go_roundw
            case rel => rw [HC.out]; exact ref_run1 hs hlt hp0 hrun HX.out ((hb2.alloc hb2.size _).alloc (Nat.le_trans hb2.size (by simp)) _)
            case measure => simp [intOf]; omega
        · have hsl := slice_at s i hlt
          clear hlow
          go_wp2_with (go_at_call 68; refine (sames_any _ hs i hlt _).mono ?_; rintro e w1 ⟨rfl, hb1⟩; have hb2 := hb.trans (hb1.mono hb.size))
          all_goals
            go_roundw
            case rel => exact ref_keep hs hlt hpi hrun HX.out hb2
            case measure => simp [intOf]; omega
      · by_cases hp0 : p.size = 0
        · clear hlow
          go_wp2
          go_ret2
          exact ⟨ret_same (ref_end0 hi hlt hp0 HX.out), hb⟩
        · have hcv1 := conv_one _ _ (hlow hp0)
          clear hlow
          go_wp2
          go_ret2
          exact ⟨ret_same (ref_end1 hi hlt hp0 HX.out), hb.alloc hb.size _⟩
  · have hp : packed s = .tuple #[.string ⟨#[]⟩, .int .i64 1] := if_neg hs
    rw [hp]
    clear hp
    go_enter Try.func47, Try.ntmps47
    go_wp2
    go_ret2
    exact ⟨rfl, Below.refl _ _⟩
end Go.Proofs.Ythjaanhkmfiajac

/- The document's sealOf and RecordOf: what they return. Conditions: at most a thousand bytes; the writes are good for at most 32 blocks. -/
namespace Go.Proofs.Ythjaanhkmfiajac
open Go.RowKit PM

/-- 'string([]byte{..})' of four -/
theorem conv_four (z0 z1 z2 z3 : Int) (c0 c1 c2 c3 : UInt8) (h0 : z0 = c0.toNat) (h1 : z1 = c1.toNat) (h2 : z2 = c2.toNat) (h3 : z3 = c3.toNat) (W : World) :
    (convert 91 9 (.slice (some ⟨W.heap.size, 0, none⟩) 4 4)).run Try.prog (W.alloc (.cells #[.int .u8 z0, .int .u8 z1, .int .u8 z2, .int .u8 z3] 5)) = .ok (.string ⟨#[c0, c1, c2, c3]⟩) (W.alloc (.cells #[.int .u8 z0, .int .u8 z1, .int .u8 z2, .int .u8 z3] 5)) := by
  subst h0 h1 h2 h3
  refine run_convert_bytes_back (P := Try.prog) _ 91 9 5 ⟨W.heap.size, 0, none⟩ 4 [c0, c1, c2, c3] Try.underlying91 Try.underlying5 Try.underlying9 ?_
  intro j hj
  match j, hj with
  | 0, _ => simp [Addr.add]
  | 1, _ => simp [Addr.add]
  | 2, _ => simp [Addr.add]
  | 3, _ => simp [Addr.add]

set_option maxRecDepth 100000 in
set_option maxHeartbeats 1000000 in
theorem sealOf_any (s : ByteArray) (hs : s.size ≤ 1000) (w : World) :
    Calls Try.prog 48 #[.string s] w fun e w' => e = .returned (.string ⟨(LM.sealL s.data.toList).toArray⟩) ∧ Below w.heap.size w w' := by
  go_enter Try.func48, Try.ntmps48
  go_wp2
  go_loopw [3, 4, 5] (fun a b i wr => ∃ (k x y : Nat), k ≤ s.size ∧ i = .int .i64 k ∧ a = .int .i64 x ∧ b = .int .i64 y ∧ Hid (LM.sums (1, 0) (s.data.toList.take k) = (x, y)) ∧ x < 65521 ∧ y < 65521 ∧ Below w.heap.size w wr) (fun _ _ i _ => s.size - (intOf i).toNat)
  case atStart => exact ⟨0, 1, 0, Nat.zero_le _, rfl, rfl, rfl, Lib.hid rfl, by omega, by omega, Below.refl _ _⟩
  case round =>
    obtain ⟨k, x, y, hk, rfl, rfl, rfl, HS, hx, hy, hb⟩ := hrel
    by_cases hlt : k < s.size
    · have hbk : s.data.toList[k]? = some s[k] := by
        rw [Array.getElem?_toList]
        exact Array.getElem?_eq_getElem hlt
      have hb8 := s[k].toNat_lt
      have hst := sums_step hbk (1, 0)
      rw [HS.out] at hst
      have HST := Lib.hid hst
      clear hbk hst
      go_wp2
      go_roundw
      case rel => exact ⟨k + 1, (x + s[k].toNat) % 65521, ((x + s[k].toNat) % 65521 + y) % 65521, by omega, by go_num, by congr 1, by first | (congr 1; done) | (congr 1; omega), HST, Nat.mod_lt _ (by omega), Nat.mod_lt _ (by omega), hb⟩
      case measure => simp [intOf]; omega
    · have hke : k = s.size := by omega
      have hS := HS.out
      rw [hke, List.take_of_length_le (by rw [len_eq]; exact Nat.le_refl _)] at hS
      have HSS := Lib.hid hS
      clear hS HS
      have hcv := conv_four ((y : Int) / 256) ((y : Int) % 256) ((x : Int) / 256) ((x : Int) % 256) (UInt8.ofNat (y / 256)) (UInt8.ofNat (y % 256)) (UInt8.ofNat (x / 256)) (UInt8.ofNat (x % 256))
        (by rw [u8_of _ (by omega)]; omega) (by rw [u8_of _ (by omega)]; omega) (by rw [u8_of _ (by omega)]; omega) (by rw [u8_of _ (by omega)]; omega)
      obtain ⟨c0, h0⟩ : ∃ c, c = UInt8.ofNat (y / 256) := ⟨_, rfl⟩
      obtain ⟨c1, h1⟩ : ∃ c, c = UInt8.ofNat (y % 256) := ⟨_, rfl⟩
      obtain ⟨c2, h2⟩ : ∃ c, c = UInt8.ofNat (x / 256) := ⟨_, rfl⟩
      obtain ⟨c3, h3⟩ : ∃ c, c = UInt8.ofNat (x % 256) := ⟨_, rfl⟩
      have hfin : (⟨#[c0, c1, c2, c3]⟩ : ByteArray) = ⟨(LM.sealL s.data.toList).toArray⟩ := by
        unfold LM.sealL
        rw [HSS.out, h0, h1, h2, h3]
      rw [← h0, ← h1, ← h2, ← h3] at hcv
      have HFIN := Lib.hid hfin
      clear hfin h0 h1 h2 h3
      go_wp2
      go_ret
      have hret : Ending.returned (.string ⟨#[c0, c1, c2, c3]⟩) = .returned (.string ⟨(LM.sealL s.data.toList).toArray⟩) := by rw [HFIN.out]
      exact ⟨hret, below_alloc hb _⟩

theorem rec_text {W : List Wr} {b s : ByteArray} {d0 d1 : UInt8} (hb : b.data.toList = LM.body W) (h0 : d0 = UInt8.ofNat (b.size / 256)) (h1 : d1 = UInt8.ofNat (b.size % 256)) (hs : s = ⟨#[114]⟩ ++ ⟨#[d0, d1]⟩ ++ b) :
    (s ++ ⟨(LM.sealL s.data.toList).toArray⟩ : ByteArray).data.toList = LM.recL W := by
  have hf : s.data.toList = LM.front (LM.body W) := by
    rw [hs, cat_eq, cat_eq, ← rec_join W, hb, h0, h1]
    have : b.size = (LM.body W).length := by rw [← hb, len_eq]
    rw [this]
  rw [cat_eq, hf]
  rfl

set_option maxRecDepth 100000 in
set_option maxHeartbeats 2000000 in
theorem RecordOf_ok (v : Value) (W : List Wr) (n : Nat) (hn : n ≤ 32) (hn1 : 1 ≤ n) (hf : wFault W (n : Int) = 0) (w : World) (h : WritesAt w v W) :
    Calls Try.prog 30 #[v, .int .i64 (n : Int)] w fun e w' => e = .returned (.tuple #[.string ⟨(LM.recL W).toArray⟩, .int .i64 0]) ∧ Below w.heap.size w w' := by
  have hg : LM.Good n W := ⟨hf, hn⟩
  have h12 := (wFault_ok hf).len
  have hsm := hg.small
  have hfl := flat_len h12 hsm
  have hwt := IntWalk.i64_in ((n : Int) - 1) (by omega)
  have hwf : ∀ w', Below w.heap.size w w' → Calls Try.prog 44 #[v, .int .i64 (n : Int)] w' fun e w'' => e = .returned (.int .i64 0) ∧ Below w'.heap.size w' w'' := by
    intro w' hb
    have := WritesFault_any v W (n : Int) _ rfl w' (h.keep hb)
    rw [hwt, show (n : Int) - 1 + 1 = (n : Int) by omega, hf] at this
    exact this
  have HWF := Lib.hid hwf
  obtain ⟨p, cap, rfl, hl, _, hc⟩ := h
  have HC := Lib.hid hc
  have HS := Lib.hid hsm
  have HFL := Lib.hid hfl
  have hcv1 := conv_one (W.length : Int) (UInt8.ofNat W.length) (by rw [u8_of _ (by omega)])
  obtain ⟨cW, hcW⟩ : ∃ c, c = UInt8.ofNat W.length := ⟨_, rfl⟩
  rw [← hcW] at hcv1
  have HCW := Lib.hid hcW
  have hbody : LM.body W = UInt8.ofNat W.length :: (W.take W.length).flatMap LM.wbytes := by rw [List.take_length]; rfl
  have HBODY := Lib.hid hbody
  clear hc hsm hfl hwf hwt hcW hbody hg hf
  go_enter Try.func30, Try.ntmps30
  go_wp2_with (go_at_call 44; refine (HWF.out _ (Below.refl _ _)).mono ?_; rintro e w1 ⟨rfl, hb1⟩)
  clear hcv1
  go_loopw [7, 8] (fun bs i wr => ∃ (k : Nat) (b : ByteArray), k ≤ W.length ∧ i = .int .i64 (k : Int) ∧ bs = .string b ∧ b.size ≤ 613 ∧ Hid (b.data.toList = cW :: (W.take k).flatMap LM.wbytes) ∧ Below w.heap.size w wr) (fun _ i _ => W.length - (intOf i).toNat)
  case atStart => exact ⟨0, ⟨#[cW]⟩, Nat.zero_le _, rfl, rfl, by simp [ByteArray.size], Lib.hid (by simp), below_alloc hb1 _⟩
  case round =>
    obtain ⟨k, b, hk, rfl, rfl, hb613, HB, hb⟩ := hrel
    by_cases hlt : k < W.length
    · obtain ⟨x, hx⟩ : ∃ x, W[k]? = some x := ⟨W[k], List.getElem?_eq_getElem hlt⟩
      obtain ⟨g, off, rfl, hbl, c0, c1⟩ := HC.out k x hx
      obtain ⟨s0, s1, s2⟩ := HS.out x (List.mem_of_getElem? hx)
      obtain ⟨q, hq⟩ : ∃ q : Nat, x.block = (q : Int) := ⟨x.block.toNat, by omega⟩
      obtain ⟨t, htp, htl, ht49, hts⟩ := packed_small s2
      have hst := flat_step hx hq htl hts (UInt8.ofNat W.length)
      rw [← HCW.out, ← HB.out] at hst
      replace c0 := (hb.cell (p := ⟨g, _, none⟩) hbl).trans c0
      replace c1 := (hb.cell (p := ⟨g, _, none⟩) hbl).trans c1
      have hgr := Nat.lt_of_lt_of_le hbl hb.size
      rw [hq] at c0 s0 s1
      have hcv2 := conv_two (q : Int) (t.size : Int) (UInt8.ofNat q) (UInt8.ofNat t.size) (by rw [u8_of _ (by omega)]) (by rw [u8_of _ (by omega)])
      obtain ⟨d0, hd0⟩ : ∃ c, c = UInt8.ofNat q := ⟨_, rfl⟩
      obtain ⟨d1, hd1⟩ : ∃ c, c = UInt8.ofNat t.size := ⟨_, rfl⟩
      rw [← hd0, ← hd1] at hcv2
      have hnew : (b ++ ⟨#[d0, d1]⟩ ++ t : ByteArray).data.toList = cW :: (W.take (k + 1)).flatMap LM.wbytes := by
        rw [cat_eq, cat_eq, ← hst, hd0, hd1]
      have hnl : (b ++ ⟨#[d0, d1]⟩ ++ t : ByteArray).size ≤ 613 := by
        rw [← len_eq, hnew, List.length_cons]
        have := HFL.out (k + 1)
        omega
      have HNEW := Lib.hid hnew
      have HNL := Lib.hid hnl
      have HTP := Lib.hid htp
      clear hst htp hts htl hx hnew hnl hd0 hd1 hq hbl
      go_wp2_with (go_at_call 47; refine (PackedOf_any _ _).mono ?_; rw [HTP.out]; rintro e w2 ⟨rfl, hb2⟩; have c0' := (hb2.cell (p := ⟨g, _, none⟩) hgr).trans c0)
      go_roundw
      case rel => exact ⟨k + 1, _, by omega, by go_num, rfl, HNL.out, HNEW, below_alloc (below_then hb hb2) _⟩
      case measure => simp [intOf]; omega
    · have hke : k = W.length := by omega
      have hbB : b.data.toList = LM.body W := by rw [HB.out, hke, HBODY.out, HCW.out]
      have hcv := conv_two ((b.size : Int) / 256) ((b.size : Int) % 256) (UInt8.ofNat (b.size / 256)) (UInt8.ofNat (b.size % 256)) (by rw [u8_of _ (by omega)]; omega) (by rw [u8_of _ (by omega)]; omega)
      obtain ⟨d0, hd0⟩ : ∃ c, c = UInt8.ofNat (b.size / 256) := ⟨_, rfl⟩
      obtain ⟨d1, hd1⟩ : ∃ c, c = UInt8.ofNat (b.size % 256) := ⟨_, rfl⟩
      rw [← hd0, ← hd1] at hcv
      have hsl : (⟨#[114]⟩ ++ ⟨#[d0, d1]⟩ ++ b : ByteArray).size ≤ 1000 := by
        have e1 : (⟨#[114]⟩ : ByteArray).data.toList.length = 1 := rfl
        have e2 : (⟨#[d0, d1]⟩ : ByteArray).data.toList.length = 2 := rfl
        rw [← len_eq, cat_eq, cat_eq, List.length_append, List.length_append, len_eq b, e1, e2]
        omega
      have htx := rec_text (W := W) hbB hd0 hd1 rfl
      obtain ⟨sl, hsle, hsl4⟩ : ∃ sl : ByteArray, ⟨(LM.sealL (⟨#[114]⟩ ++ ⟨#[d0, d1]⟩ ++ b : ByteArray).data.toList).toArray⟩ = sl ∧ sl.size = 4 := ⟨_, rfl, rfl⟩
      rw [hsle] at htx
      have HSLE := Lib.hid hsle
      have HTX := Lib.hid htx
      have HSL := Lib.hid hsl
      subst hke
      clear htx hsl hsle hd0 hd1 hbB HB HBODY HCW
      go_wp2_with (go_at_call 48; refine (sealOf_any _ HSL.out _).mono ?_; rw [HSLE.out]; rintro e w2 ⟨rfl, hb2⟩)
      go_ret2
      exact ⟨ret_same HTX.out, below_then (below_alloc hb _) hb2⟩
end Go.Proofs.Ythjaanhkmfiajac
