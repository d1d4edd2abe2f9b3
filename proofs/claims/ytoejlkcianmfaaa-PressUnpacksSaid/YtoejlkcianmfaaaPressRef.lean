/- The document's PackedOf: it returns what Pack returns. No condition. -/
import Derived.Test.YtoejlkcianmfaaaPressEncode
import Derived.Laws.Concat
namespace Go.Proofs.Ytoejlkcianmfaaa
open Go.RowKit PM

theorem slice_at (s : ByteArray) (i : Nat) (hi : i < s.size) (W : World) :
    (Instr.slice 9 (.string s) (some (.int .i64 (i : Int))) (some (.int .i64 ((i : Int) + 1))) none).run Try.prog W = .ok (.string (s.extract i (i + 1))) W := by
  rw [run_slice_string W 9 s .i64 .i64 _ _ Try.underlying9 (by omega) (by omega) (by omega)]
  rw [show ((i : Int) + 1).toNat = i + 1 by omega, show ((i : Int)).toNat = i by omega]

/-- 'string([]byte{c})' -/
theorem conv_one (z : Int) (c : UInt8) (hz : z = c.toNat) (W : World) :
    (convert 28 9 (.slice (some ⟨W.heap.size, 0, none⟩) 1 1)).run Try.prog (W.alloc (.cells #[.int .u8 z] 5)) = .ok (.string ⟨#[c]⟩) (W.alloc (.cells #[.int .u8 z] 5)) := by
  subst hz
  refine run_convert_bytes_back (P := Try.prog) _ 28 9 5 ⟨W.heap.size, 0, none⟩ 1 [c] Try.underlying28 Try.underlying5 Try.underlying9 ?_
  intro j hj
  match j, hj with
  | 0, _ => simp [Addr.add]

/-- 'string([]byte{c, d})' -/
theorem conv_two (z y : Int) (c d : UInt8) (hz : z = c.toNat) (hy : y = d.toNat) (W : World) :
    (convert 28 9 (.slice (some ⟨W.heap.size, 0, none⟩) 2 2)).run Try.prog (W.alloc (.cells #[.int .u8 z, .int .u8 y] 5)) = .ok (.string ⟨#[c, d]⟩) (W.alloc (.cells #[.int .u8 z, .int .u8 y] 5)) := by
  subst hz hy
  refine run_convert_bytes_back (P := Try.prog) _ 28 9 5 ⟨W.heap.size, 0, none⟩ 2 [c, d] Try.underlying28 Try.underlying5 Try.underlying9 ?_
  intro j hj
  match j, hj with
  | 0, _ => simp [Addr.add]
  | 1, _ => simp [Addr.add]

theorem conv_two_next (z y : Int) (c d : UInt8) (hz : z = c.toNat) (hy : y = d.toNat) (W : World) (o : Obj) :
    (convert 28 9 (.slice (some ⟨W.heap.size + 1, 0, none⟩) 2 2)).run Try.prog ((W.alloc o).alloc (.cells #[.int .u8 z, .int .u8 y] 5)) = .ok (.string ⟨#[c, d]⟩) ((W.alloc o).alloc (.cells #[.int .u8 z, .int .u8 y] 5)) := by
  have h := conv_two z y c d hz hy (W.alloc o)
  rw [show (W.alloc o).heap.size = W.heap.size + 1 by simp] at h
  exact h

theorem cat_eq (a b : ByteArray) : (a ++ b).data.toList = a.data.toList ++ b.data.toList := by simp

def RefRel (s : ByteArray) (W0 : World) (a b c : Value) (wr : World) : Prop :=
  ∃ (o p : ByteArray) (i : Nat), a = .string o ∧ b = .string p ∧ c = .int .i64 i ∧ i ≤ s.size ∧ p.size ≤ i ∧
    o.data.toList ++ refGo p.data.toList (s.data.toList.drop i) = enc s.data.toList ∧ o.size ≤ 96 ∧ Below W0.heap.size W0 wr

theorem bound_of {s o : ByteArray} {y : List UInt8} (hs : s.size ≤ 48) (h : o.data.toList ++ y = enc s.data.toList) : o.size ≤ 96 := by
  have := enc_len2 _ s.data.toList rfl
  rw [← h, List.length_append, len_eq, len_eq] at this
  omega

theorem drop_ne {s : ByteArray} {i : Nat} (hi : i < s.size) : s.data.toList.drop i ≠ [] := by
  intro e
  have := congrArg List.length e
  rw [List.length_drop, len_eq] at this
  simp only [List.length_nil] at this
  omega

theorem drop_head {s : ByteArray} {i : Nat} (hi : i < s.size) : (s.data.toList.drop i).headD 0 = s[i] := by
  have h0 : (s.data.toList.drop i)[0]? = some s[i] := by rw [List.getElem?_drop]; exact get_eq s i hi
  cases hl : s.data.toList.drop i with
  | nil => rw [hl] at h0; simp at h0
  | cons c t => rw [hl] at h0; simp at h0; simp [h0]

theorem extract_one (s : ByteArray) (i : Nat) (hi : i < s.size) : (s.extract i (i + 1)).data.toList = [s[i]] := by
  have : (s.extract i (i + 1)).data = s.data.extract i (i + 1) := by simp
  rw [this, Array.toList_extract]
  simp only [List.extract]
  have h0 : (s.data.toList.drop i)[0]? = some s[i] := by rw [List.getElem?_drop]; exact get_eq s i hi
  cases hl : s.data.toList.drop i with
  | nil => rw [hl] at h0; simp at h0
  | cons c t => rw [hl] at h0; simp at h0; simp [h0]

theorem nil_of {p : ByteArray} (h : p.size = 0) : p.data.toList = [] := List.eq_nil_of_length_eq_zero (by rw [len_eq]; exact h)
theorem ne_of {p : ByteArray} (h : ¬ p.size = 0) : p.data.toList ≠ [] := by
  intro e
  have := congrArg List.length e
  rw [len_eq] at this
  exact h this

theorem ref_keep {s o p : ByteArray} {i : Nat} {W0 w1 : World} (hs : s.size ≤ 48) (hi : i < s.size) (hpi : p.size ≤ i) (hrun : ¬ 3 ≤ rl (s.data.toList.drop i))
    (hx : o.data.toList ++ refGo p.data.toList (s.data.toList.drop i) = enc s.data.toList) (hb : Below W0.heap.size W0 w1) :
    RefRel s W0 (.string o) (.string (p ++ s.extract i (i + 1))) (.int .i64 ((i : Int) + 1)) w1 := by
  have e : o.data.toList ++ refGo (p ++ s.extract i (i + 1)).data.toList (s.data.toList.drop (i + 1)) = enc s.data.toList := by
    rw [← hx, refGo_one (drop_ne hi) hrun, cat_eq, extract_one s i hi, drop_head hi, List.tail_drop]
  refine ⟨o, _, i + 1, rfl, rfl, by go_num, by omega, ?_, e, bound_of hs e, hb⟩
  rw [ByteArray.size_append, ByteArray.size_extract]; omega

theorem ref_run0 {s o p : ByteArray} {i : Nat} {W0 w1 : World} (hs : s.size ≤ 48) (hi : i < s.size) (hp : p.size = 0) (hrun : 3 ≤ rl (s.data.toList.drop i))
    (hx : o.data.toList ++ refGo p.data.toList (s.data.toList.drop i) = enc s.data.toList) (hb : Below W0.heap.size W0 w1) :
    RefRel s W0 (.string (o ++ ⟨#[UInt8.ofNat (125 + rl (s.data.toList.drop i)), s[i]]⟩)) (.string p) (.int .i64 ((i : Int) + (rl (s.data.toList.drop i) : Int))) w1 := by
  have hn := rl_le (s.data.toList.drop i)
  rw [List.length_drop, len_eq] at hn
  have e : (o ++ ⟨#[UInt8.ofNat (125 + rl (s.data.toList.drop i)), s[i]]⟩ : ByteArray).data.toList ++ refGo p.data.toList (s.data.toList.drop (i + rl (s.data.toList.drop i))) = enc s.data.toList := by
    rw [← hx, nil_of hp, refGo_run hrun, cat_eq, drop_head hi, flush_nil, List.drop_drop]; simp only [List.append_assoc, List.nil_append, List.cons_append]
  refine ⟨_, p, i + rl (s.data.toList.drop i), rfl, rfl, by go_num, by omega, by omega, e, bound_of hs e, hb⟩

theorem ref_run1 {s o p : ByteArray} {i : Nat} {W0 w1 : World} (hs : s.size ≤ 48) (hi : i < s.size) (hp : ¬ p.size = 0) (hrun : 3 ≤ rl (s.data.toList.drop i))
    (hx : o.data.toList ++ refGo p.data.toList (s.data.toList.drop i) = enc s.data.toList) (hb : Below W0.heap.size W0 w1) :
    RefRel s W0 (.string (o ++ ⟨#[UInt8.ofNat (p.size - 1)]⟩ ++ p ++ ⟨#[UInt8.ofNat (125 + rl (s.data.toList.drop i)), s[i]]⟩)) (.string ⟨#[]⟩) (.int .i64 ((i : Int) + (rl (s.data.toList.drop i) : Int))) w1 := by
  have hn := rl_le (s.data.toList.drop i)
  rw [List.length_drop, len_eq] at hn
  have e : (o ++ ⟨#[UInt8.ofNat (p.size - 1)]⟩ ++ p ++ ⟨#[UInt8.ofNat (125 + rl (s.data.toList.drop i)), s[i]]⟩ : ByteArray).data.toList ++ refGo (⟨#[]⟩ : ByteArray).data.toList (s.data.toList.drop (i + rl (s.data.toList.drop i))) = enc s.data.toList := by
    rw [← hx, refGo_run hrun, cat_eq, cat_eq, cat_eq, drop_head hi, flush_ne (ne_of hp), List.drop_drop, len_eq]; simp only [List.append_assoc, List.nil_append, List.cons_append]
  refine ⟨_, _, i + rl (s.data.toList.drop i), rfl, rfl, by go_num, by omega, Nat.zero_le _, e, bound_of hs e, hb⟩

theorem ref_end0 {s o p : ByteArray} {i : Nat} (hi : i ≤ s.size) (hlt : ¬ i < s.size) (hp : p.size = 0) (hx : o.data.toList ++ refGo p.data.toList (s.data.toList.drop i) = enc s.data.toList) : o.data.toList = enc s.data.toList := by
  rw [nil_of hp, List.drop_of_length_le (by rw [len_eq]; omega), refGo_nil, flush_nil, List.append_nil] at hx
  exact hx

theorem ref_end1 {s o p : ByteArray} {i : Nat} (hi : i ≤ s.size) (hlt : ¬ i < s.size) (hp : ¬ p.size = 0) (hx : o.data.toList ++ refGo p.data.toList (s.data.toList.drop i) = enc s.data.toList) : (o ++ ⟨#[UInt8.ofNat (p.size - 1)]⟩ ++ p : ByteArray).data.toList = enc s.data.toList := by
  rw [List.drop_of_length_le (by rw [len_eq]; omega), refGo_nil, flush_ne (ne_of hp), len_eq] at hx
  rw [← hx, cat_eq, cat_eq]; simp only [List.append_assoc, List.nil_append, List.cons_append]

theorem ret_same {o : ByteArray} {l : List UInt8} (h : o.data.toList = l) : Ending.returned (.tuple #[.string o, .int .i64 0]) = .returned (.tuple #[.string ⟨l.toArray⟩, .int .i64 0]) := by
  subst h; rfl

set_option maxRecDepth 100000 in
set_option maxHeartbeats 1000000 in
theorem PackedOf_any (s : ByteArray) (w : World) :
    Calls Try.prog 6 #[.string s] w fun e w' => e = .returned (packed s) ∧ Below w.heap.size w w' := by
  by_cases hs : s.size ≤ 48
  · have hp : packed s = .tuple #[.string ⟨(enc s.data.toList).toArray⟩, .int .i64 0] := if_pos hs
    rw [hp]
    clear hp
    go_enter Try.func6, Try.ntmps6
    go_wp2
    go_loopw [4, 5, 6] (fun a b c wr => RefRel s w a b c wr) (fun _ _ c _ => s.size + 1 - (intOf c).toNat)
    case atStart => exact ⟨⟨#[]⟩, ⟨#[]⟩, 0, rfl, rfl, rfl, Nat.zero_le _, Nat.le_refl _, refGo_enc _, Nat.zero_le _, Below.refl _ _⟩
    case round =>
      obtain ⟨o, p, i, rfl, rfl, rfl, hi, hpi, hx, hol, hb⟩ := hrel
      have HX := Lib.hid hx
      clear hx
      have h128 : ((p.size : Int) == 128) = false := by simp; omega
      have hlow : ¬ p.size = 0 → ((p.size : Int) - 1 = ((UInt8.ofNat (p.size - 1)).toNat : Int)) := fun h => by rw [u8_of _ (by omega)]; omega
      by_cases hlt : i < s.size
      · have hne : ((i : Int) == (s.size : Int)) = false := by simp; omega
        by_cases hrun : 3 ≤ rl (s.data.toList.drop i)
        · have hn := rl_le (s.data.toList.drop i)
          rw [List.length_drop, len_eq] at hn
          have htwo := two_ok (s.data.toList.drop i) (by omega)
          obtain ⟨c, hc⟩ : ∃ c, c = UInt8.ofNat (125 + rl (s.data.toList.drop i)) := ⟨_, rfl⟩
          rw [← hc] at htwo
          have HC := Lib.hid hc
          clear hc
          have hcv2 := conv_two _ _ c s[i] htwo rfl
          have hcv3 := conv_two_next _ _ c s[i] htwo rfl
          clear htwo
          by_cases hp0 : p.size = 0
          · clear hlow
            go_wp2_with (go_at_call 10; refine (sames_any _ hs i hlt _).mono ?_; rintro e w1 ⟨rfl, hb1⟩; have hb2 := hb.trans (hb1.mono hb.size))
            go_roundw
            case rel => rw [HC.out]; exact ref_run0 hs hlt hp0 hrun HX.out (hb2.alloc hb2.size _)
            case measure => simp [intOf]; omega
          · have hcv1 := conv_one _ _ (hlow hp0)
            clear hlow
            go_wp2_with (go_at_call 10; refine (sames_any _ hs i hlt _).mono ?_; rintro e w1 ⟨rfl, hb1⟩; have hb2 := hb.trans (hb1.mono hb.size))
            go_roundw
            case rel => rw [HC.out]; exact ref_run1 hs hlt hp0 hrun HX.out ((hb2.alloc hb2.size _).alloc (Nat.le_trans hb2.size (by simp)) _)
            case measure => simp [intOf]; omega
        · have hsl := slice_at s i hlt
          clear hlow
          go_wp2_with (go_at_call 10; refine (sames_any _ hs i hlt _).mono ?_; rintro e w1 ⟨rfl, hb1⟩; have hb2 := hb.trans (hb1.mono hb.size))
          all_goals
            go_roundw
            case rel => exact ref_keep hs hlt hpi hrun HX.out hb2
            case measure => simp [intOf]; omega
      · by_cases hp0 : p.size = 0
        · clear hlow
          go_wp2
          go_ret2
          exact ⟨ret_same (ref_end0 hi hlt hp0 HX.out), hb⟩
        · have hcv1 := conv_one _ _ (hlow hp0)
          clear hlow
          go_wp2
          go_ret2
          exact ⟨ret_same (ref_end1 hi hlt hp0 HX.out), hb.alloc hb.size _⟩
  · have hp : packed s = .tuple #[.string ⟨#[]⟩, .int .i64 1] := if_neg hs
    rw [hp]
    clear hp
    go_enter Try.func6, Try.ntmps6
    go_wp2
    go_ret2
    exact ⟨rfl, Below.refl _ _⟩
end Go.Proofs.Ytoejlkcianmfaaa
