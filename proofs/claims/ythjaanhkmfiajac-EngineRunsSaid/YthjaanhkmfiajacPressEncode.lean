/- Package press's encode, and Pack: what they return. Condition: encode's text has at most 48 bytes. -/
import Derived.Test.YthjaanhkmfiajacPressRuns
import Derived.Test.YthjaanhkmfiajacPressBuf
namespace Go.Proofs.Ythjaanhkmfiajac
open Go.RowKit PM

theorem Try.infoByte : (Try.prog.info? 5).map (fun i => (i.zero, i.size, i.bytes)) = some (some (.int .u8 0), 1, 1) := by kernel_rfl

theorem u8_of (n : Nat) (h : n < 256) : ((UInt8.ofNat n).toNat : Int) = (n : Int) := by simp; omega

def EncRel (s : ByteArray) (W0 : World) (a b : Value) (wr : World) : Prop :=
  ∃ (r : ByteArray) (x : List UInt8), a = .string r ∧ r.size ≤ 48 ∧ x ++ enc r.data.toList = enc s.data.toList ∧ x.length ≤ 96 ∧ OwnB W0.heap.size 5 b x W0 wr

theorem ret_str {l l' : List UInt8} (h : l = l') : Ending.returned (.string ⟨l.toArray⟩) = .returned (.string ⟨l'.toArray⟩) := by rw [h]

def slen : Value → Nat
  | .string r => r.size
  | _ => 0

theorem two_ok (l : List UInt8) (h : rl l ≤ 48) : (125 : Int) + (rl l : Int) = ((UInt8.ofNat (125 + rl l)).toNat : Int) := by
  rw [u8_of _ (by omega)]; omega
theorem one_ok (l : List UInt8) (h : lit l ≤ 48) : (lit l : Int) = ((UInt8.ofNat (lit l)).toNat : Int) := by
  rw [u8_of _ (by omega)]

theorem ext_from (s : ByteArray) (k : Nat) : (s.extract k s.size).data.toList = s.data.toList.drop k := extract_from s k
theorem extract_to (s : ByteArray) (k : Nat) : (s.extract 0 k).data.toList = s.data.toList.take k := by
  have : (s.extract 0 k).data = s.data.extract 0 k := by simp
  rw [this, Array.toList_extract]
  simp [List.extract]

theorem rel_run {s r : ByteArray} {x : List UInt8} {W0 w2 : World} {v : Value} (h0 : 0 < r.size) (hr : r.size ≤ 48) (hs : s.size ≤ 48) (hx : x ++ enc r.data.toList = enc s.data.toList) (hrun : 3 ≤ rl r.data.toList)
    (hown : OwnB W0.heap.size 5 v (x ++ [UInt8.ofNat (125 + rl r.data.toList), r[0]]) W0 w2) :
    EncRel s W0 (.string (r.extract (rl r.data.toList) r.size)) v w2 := by
  have e : (x ++ [UInt8.ofNat (125 + rl r.data.toList), r[0]]) ++ enc (r.extract (rl r.data.toList) r.size).data.toList = enc s.data.toList := by
    rw [ext_from, ← hx, enc_run hrun, head_eq r h0]; simp only [List.append_assoc, List.cons_append, List.nil_append]
  refine ⟨_, _, rfl, by rw [extract_size]; omega, e, ?_, hown⟩
  have := enc_len2 _ s.data.toList rfl
  rw [← e, List.length_append, len_eq] at this
  omega

theorem rel_lit {s r : ByteArray} {x : List UInt8} {W0 w2 : World} {v : Value} (h0 : 0 < r.size) (hr : r.size ≤ 48) (hs : s.size ≤ 48) (hx : x ++ enc r.data.toList = enc s.data.toList) (hrun : ¬ 3 ≤ rl r.data.toList)
    (hown : OwnB W0.heap.size 5 v (x ++ [UInt8.ofNat (lit r.data.toList.tail)] ++ (r.extract 0 (lit r.data.toList.tail + 1)).data.toList) W0 w2) :
    EncRel s W0 (.string (r.extract (lit r.data.toList.tail + 1) r.size)) v w2 := by
  have hne : r.data.toList ≠ [] := by intro e; have := congrArg List.length e; rw [len_eq] at this; simp only [List.length_nil] at this; omega
  have e : (x ++ [UInt8.ofNat (lit r.data.toList.tail)] ++ (r.extract 0 (lit r.data.toList.tail + 1)).data.toList) ++ enc (r.extract (lit r.data.toList.tail + 1) r.size).data.toList = enc s.data.toList := by
    rw [ext_from, extract_to, ← hx, enc_lit hne hrun]; simp only [List.append_assoc, List.cons_append, List.nil_append]
  refine ⟨_, _, rfl, by rw [extract_size]; omega, e, ?_, hown⟩
  have := enc_len2 _ s.data.toList rfl
  rw [← e, List.length_append, len_eq] at this
  omega

theorem rel_len {s r : ByteArray} {x : List UInt8} (hs : s.size ≤ 48) (hx : x ++ enc r.data.toList = enc s.data.toList) : x.length ≤ 96 := by
  have := enc_len2 _ s.data.toList rfl
  rw [← hx, List.length_append, len_eq] at this
  omega

set_option maxRecDepth 100000 in
set_option maxHeartbeats 1000000 in
theorem encode_any (s : ByteArray) (hs : s.size ≤ 48) (w : World) :
    Calls Try.prog 85 #[.string s] w fun e w' => e = .returned (.string ⟨(enc s.data.toList).toArray⟩) ∧ Below w.heap.size w w' := by
  obtain ⟨i0, hi, hz0, hz1, hz2⟩ := info_parts Try.infoByte
  go_enter Try.func85, Try.ntmps85
  go_wp2
  go_loopw [0, 3] (fun a b wr => EncRel s w a b wr) (fun a _ _ => slen a)
  case atStart => exact ⟨s, [], rfl, hs, rfl, by simp, OwnB.nil (Nat.le_refl _)⟩
  case round =>
    obtain ⟨r, x, rfl, hr, hx, hxl, hown⟩ := hrel
    have HX := Lib.hid hx
    clear hx
    by_cases hpos : 0 < r.size
    · have hrl := rl_le r.data.toList
      rw [len_eq] at hrl
      by_cases hrun : 3 ≤ rl r.data.toList
      · have h2 := two_ok r.data.toList (by omega)
        have H2 := Lib.hid h2
        clear h2
        go_wp2_with (first
          | (go_at_call 89; refine (runLength_any _ hr _).mono ?_; rintro e w1 ⟨rfl, hb1⟩; have hown1 := hown.past hb1)
          | (at_builtin; refine wpList_own_two rfl (.tmp 12) (.tmp 18) 91 rfl w.heap.size 5 i0 Try.underlying91 hi hz0 hz1 hz2 _ _ rfl w _ (UInt8.ofNat (125 + rl r.data.toList)) r[0] _ _ H2.out rfl hown1 rfl (by omega) ?_; intro v2 w2 hown2))
        go_roundw
        case rel => exact rel_run hpos hr hs HX.out hrun hown2
        case measure => simp [slen]; omega
      · have hll := lit_le r.data.toList.tail
        rw [List.length_tail, len_eq] at hll
        have h2 := one_ok r.data.toList.tail (by omega)
        have H2 := Lib.hid h2
        clear h2
        go_wp2_with (first
          | (go_at_call 89; refine (runLength_any _ hr _).mono ?_; rintro e w1 ⟨rfl, hb1⟩; have hown1 := hown.past hb1)
          | (go_at_call 90; refine (literalLength_any _ hr hpos _).mono ?_; rintro e w2 ⟨rfl, hb2⟩; have hown2 := hown1.past hb2)
          | (at_builtin; refine wpList_own_one rfl (.tmp 22) (.tmp 26) 91 rfl w.heap.size 5 i0 Try.underlying91 hi hz0 hz1 hz2 _ _ rfl w _ (UInt8.ofNat (lit r.data.toList.tail)) _ H2.out hown2 rfl (by omega) ?_; intro v3 w3 hown3)
          | (at_builtin; refine wpList_own_text rfl (.tmp 28) (.tmp 31) 91 9 rfl w.heap.size 5 i0 Try.underlying91 Try.underlying9 hi hz0 hz1 hz2 _ _ rfl w hown3 (r.extract 0 (lit r.data.toList.tail + 1)) rfl (by simp; omega) ?_; intro v4 w4 hown4))
        go_roundw
        case rel => exact rel_lit hpos hr hs HX.out hrun hown4
        case measure => simp [slen]; omega
    · have hb0 := hown.text (P := Try.prog) 91 9 Try.underlying91 Try.underlying5 Try.underlying9
      go_wp2
      go_ret
      have hnil : r.data.toList = [] := List.eq_nil_of_length_eq_zero (by rw [len_eq]; omega)
      have hxx := HX.out
      rw [hnil, enc_nil, List.append_nil] at hxx
      exact ⟨ret_str hxx, hown.below⟩

/-- the result of Pack: the text and the error's number -/
def packed (s : ByteArray) : Value := if s.size ≤ 48 then .tuple #[.string ⟨(enc s.data.toList).toArray⟩, .int .i64 0] else .tuple #[.string ⟨#[]⟩, .int .i64 1]

set_option maxRecDepth 100000 in
theorem Pack_any (s : ByteArray) (w : World) :
    Calls Try.prog 75 #[.string s] w fun e w' => e = .returned (packed s) ∧ Below w.heap.size w w' := by
  by_cases hs : s.size ≤ 48
  · have hp : packed s = .tuple #[.string ⟨(enc s.data.toList).toArray⟩, .int .i64 0] := if_pos hs
    rw [hp]
    clear hp
    go_enter Try.func75, Try.ntmps75
    go_wp2_with (go_at_call 85; refine (encode_any _ hs _).mono ?_; rintro e w1 ⟨rfl, hb1⟩)
    go_ret2
    exact ⟨rfl, hb1⟩
  · have hp : packed s = .tuple #[.string ⟨#[]⟩, .int .i64 1] := if_neg hs
    rw [hp]
    clear hp
    go_enter Try.func75, Try.ntmps75
    go_wp2
    go_ret2
    exact ⟨rfl, Below.refl _ _⟩
end Go.Proofs.Ythjaanhkmfiajac
