/- Package press's measure, appendElement, decode and Unpack: what they return. No condition. -/
import Derived.Test.YthjaanhkmfiajacPressEncode
namespace Go.Proofs.Ythjaanhkmfiajac
open Go.RowKit PM

theorem elen_lo {c : UInt8} (h : (c.toNat : Int) < 128) : elen c = c.toNat + 1 := if_pos (by omega)
theorem elen_hi {c : UInt8} (h : ¬ (c.toNat : Int) < 128) : elen c = 1 := if_neg (by omega)
theorem ecount_lo {c : UInt8} (h : (c.toNat : Int) < 128) : ecount c = c.toNat + 1 := if_pos (by omega)
theorem ecount_hi {c : UInt8} (h : ¬ (c.toNat : Int) < 128) : ecount c = c.toNat - 125 := if_neg (by omega)
theorem ebytes_lo {c : UInt8} (t : List UInt8) (h : (c.toNat : Int) < 128) : ebytes c t = t.take (c.toNat + 1) := if_pos (by omega)
theorem ebytes_hi {c : UInt8} (t : List UInt8) (h : ¬ (c.toNat : Int) < 128) : ebytes c t = List.replicate (c.toNat - 125) (t.headD 0) := if_neg (by omega)

theorem ret_two {k : IntKind} {a b c d : Int} (h : a = c) (h' : b = d) : Ending.returned (.tuple #[.int k a, .int k b]) = .returned (.tuple #[.int k c, .int k d]) := by rw [h, h']

theorem measure_any (c : UInt8) (w : World) :
    Calls Try.prog 96 #[.int .u8 (c.toNat : Int)] w fun e w' => e = .returned (.tuple #[.int .i64 ((elen c + 1 : Nat) : Int), .int .i64 (ecount c : Int)]) ∧ w = w' := by
  have hc := c.toNat_lt
  by_cases h : (c.toNat : Int) < 128
  · have e1 := elen_lo h
    have e2 := ecount_lo h
    have E1 := Lib.hid e1
    have E2 := Lib.hid e2
    clear e1 e2
    go_enter Try.func96, Try.ntmps96
    go_wp2
    go_ret2
    exact ⟨ret_two (by rw [E1.out]; omega) (by rw [E2.out]; omega), rfl⟩
  · have e1 := elen_hi h
    have e2 := ecount_hi h
    have E1 := Lib.hid e1
    have E2 := Lib.hid e2
    clear e1 e2
    go_enter Try.func96, Try.ntmps96
    go_wp2
    go_ret2
    exact ⟨ret_two (by rw [E1.out]; omega) (by rw [E2.out]; omega), rfl⟩

def RetOwn (B : Nat) (l : List UInt8) (W0 : World) (e : Ending) (w' : World) : Prop := ∃ v, e = .returned v ∧ OwnB B 5 v l W0 w'

theorem get_of {s : ByteArray} {l : List UInt8} (h : s.data.toList = l) (k : Nat) (c : UInt8) (hk : l[k]? = some c) : ∃ hlt : k < s.size, s[k] = c := by
  have hlt : k < s.size := by
    have := (List.getElem?_eq_some_iff.1 hk).1
    rw [← h, len_eq] at this
    exact this
  refine ⟨hlt, ?_⟩
  have := get_eq s k hlt
  rw [h, hk] at this
  exact (Option.some.inj this).symm

set_option maxRecDepth 100000 in
theorem appendElement_any (B : Nat) (W0 : World) (v : Value) (x t : List UInt8) (c : UInt8) (el : ByteArray) (hel : el.data.toList = c :: t.take (elen c)) (ht : elen c ≤ t.length) (hx : x.length ≤ 48) (w : World) (hown : OwnB B 5 v x W0 w) :
    Calls Try.prog 97 #[v, .string el, .int .i64 (ecount c : Int)] w (RetOwn B (x ++ ebytes c t) W0) := by
  have hc := c.toNat_lt
  obtain ⟨i0, hi, hz0, hz1, hz2⟩ := info_parts Try.infoByte
  have hsz : el.size = elen c + 1 := by rw [← len_eq, hel]; simp; omega
  obtain ⟨hl0, hg0⟩ := get_of hel 0 c rfl
  by_cases h : (c.toNat : Int) < 128
  · have hlt : (el[0].toNat : Int) < 128 := by rw [hg0]; exact h
    have e3 : (el.extract 1 el.size).data.toList = ebytes c t := by rw [extract_from, hel, ebytes_lo t h, elen_lo h]; rfl
    have hsz2 : (el.extract 1 el.size).size ≤ 200 := by rw [extract_size, hsz]; have := elen_le c; omega
    have E3 := Lib.hid e3
    have HE := Lib.hid hel
    have HG := Lib.hid hg0
    have HS := Lib.hid hsz
    clear e3 hel hg0 hsz
    go_enter Try.func97, Try.ntmps97
    go_wp2_with (at_builtin; refine wpList_own_text rfl (.tmp 10) (.tmp 12) 91 9 rfl B 5 i0 Try.underlying91 Try.underlying9 hi hz0 hz1 hz2 _ _ rfl W0 hown (el.extract 1 el.size) rfl (by omega) ?_; intro v1 w1 hown1)
    go_ret
    exact ⟨v1, rfl, hown1.cast (by rw [E3.out])⟩
  · have hge : ¬ (el[0].toNat : Int) < 128 := by rw [hg0]; exact h
    have hlo := elen_hi h
    obtain ⟨d, t', rfl⟩ : ∃ d t', t = d :: t' := by
      cases t with
      | nil => rw [hlo] at ht; simp at ht
      | cons d t' => exact ⟨d, t', rfl⟩
    have hel1 : el.data.toList = [c, d] := by rw [hel, hlo]; rfl
    obtain ⟨hl1, hg1⟩ := get_of hel1 1 d rfl
    have e2 := ecount_hi h
    have e3 := ebytes_hi (d :: t') h
    have E2 := Lib.hid e2
    have E3 := Lib.hid e3
    have HE := Lib.hid hel
    have HE1 := Lib.hid hel1
    have HG := Lib.hid hg0
    have HS := Lib.hid hsz
    have hcnt := ecount_le c
    have hd : (d.toNat : Int) = (el[1].toNat : Int) := by rw [hg1]
    have HD := Lib.hid hd
    clear e2 e3 hel hel1 hg0 hg1 hsz hlo hd
    go_enter Try.func97, Try.ntmps97
    go_wp2
    go_loopw [0, 15] (fun a k wr => ∃ n : Nat, n ≤ ecount c ∧ k = .int .i64 n ∧ OwnB B 5 a (x ++ List.replicate n d) W0 wr) (fun _ k _ => ecount c - (intOf k).toNat)
    case atStart => exact ⟨0, Nat.zero_le _, rfl, hown.cast (by simp)⟩
    case round =>
      obtain ⟨n, hn, rfl, hownr⟩ := hrel
      have hlen : (x ++ List.replicate n d).length ≤ 200 := by rw [List.length_append, List.length_replicate]; omega
      by_cases hlt : n < ecount c
      · go_wp2_with (at_builtin; refine wpList_own_one rfl (.tmp 17) (.tmp 20) 91 rfl B 5 i0 Try.underlying91 hi hz0 hz1 hz2 _ _ rfl W0 _ d _ HD.out.symm hownr rfl (by omega) ?_; intro v1 w1 hown1)
        go_roundw
        case rel => exact ⟨n + 1, by omega, by go_num, hown1.cast (by rw [List.append_assoc, List.replicate_succ'])⟩
        case measure => simp [intOf]; omega
      · go_wp2
        go_ret
        refine ⟨_, rfl, hownr.cast ?_⟩
        rw [E3.out, show n = ecount c by omega, E2.out]
        rfl

def DecRel (s : ByteArray) (W0 : World) (a b : Value) (wr : World) : Prop :=
  ∃ (r : ByteArray) (x : List UInt8), a = .string r ∧ r.size ≤ s.size ∧ dec x r.data.toList = dec [] s.data.toList ∧ x.length ≤ 48 ∧ OwnB W0.heap.size 5 b x W0 wr

def decoded (s : ByteArray) : Value := match dec [] s.data.toList with
  | .ok l => .tuple #[.string ⟨l.toArray⟩, .int .i64 0]
  | .err n => .tuple #[.string ⟨#[]⟩, .int .i64 n]
theorem decoded_ok {s : ByteArray} {l : List UInt8} (h : dec [] s.data.toList = .ok l) : decoded s = .tuple #[.string ⟨l.toArray⟩, .int .i64 0] := by unfold decoded; rw [h]
theorem decoded_err {s : ByteArray} {n : Nat} (h : dec [] s.data.toList = .err n) : decoded s = .tuple #[.string ⟨#[]⟩, .int .i64 n] := by unfold decoded; rw [h]

theorem extract_head {r : ByteArray} {c : UInt8} {t : List UInt8} (h : r.data.toList = c :: t) (n : Nat) : (r.extract 0 (n + 1)).data.toList = c :: t.take n := by
  rw [extract_to, h]; rfl
theorem extract_tail {r : ByteArray} {c : UInt8} {t : List UInt8} (h : r.data.toList = c :: t) (n : Nat) : (r.extract (n + 1) r.size).data.toList = t.drop n := by
  rw [extract_from, h]; rfl

theorem own_len {B : Nat} {e : TypeId} {v : Value} {l : List UInt8} {W0 w : World} (h : OwnB B e v l W0 w) : ∃ p c, v = .slice p l.length c := by
  rcases h.1.2 with ⟨rfl, hn⟩ | ⟨g, cap, cur, fz, rfl, _⟩
  · exact ⟨none, 0, by rw [hn]⟩
  · exact ⟨_, cap, rfl⟩

set_option maxRecDepth 100000 in
set_option maxHeartbeats 1000000 in
theorem decode_any (s : ByteArray) (w : World) :
    Calls Try.prog 94 #[.string s] w fun e w' => e = .returned (decoded s) ∧ Below w.heap.size w w' := by
  go_enter Try.func94, Try.ntmps94
  go_wp2
  go_loopw [0, 4] (fun a b wr => DecRel s w a b wr) (fun a _ _ => slen a)
  case atStart => exact ⟨s, [], rfl, Nat.le_refl _, rfl, by simp, OwnB.nil (Nat.le_refl _)⟩
  case round =>
    obtain ⟨r, x, rfl, hr, hx, hxl, hown⟩ := hrel
    have HX := Lib.hid hx
    clear hx
    by_cases hpos : 0 < r.size
    · obtain ⟨c, t, hct⟩ : ∃ c t, r.data.toList = c :: t := by
        cases hl : r.data.toList with
        | nil => have := congrArg List.length hl; rw [len_eq] at this; simp only [List.length_nil] at this; omega
        | cons c t => exact ⟨c, t, rfl⟩
      have htl : t.length + 1 = r.size := by rw [← len_eq, hct]; rfl
      obtain ⟨_, hg0⟩ := get_of hct 0 c rfl
      have h0 : (Instr.index 9 (.string r) (.int .i64 0)).run Try.prog = fun W => .ok (.int .u8 (c.toNat : Int)) W := by
        funext W
        rw [index_at r 0 0 rfl (by omega) hpos W, hg0]
      have el := elen_le c
      have ec := ecount_le c
      have HC := Lib.hid hct
      have HT := Lib.hid htl
      clear hct htl hg0
      obtain ⟨p, cp, hv⟩ := own_len hown
      subst hv
      by_cases h1 : t.length < elen c
      · have h1' : r.size < elen c + 1 := by have := HT.out; omega
        have hr : dec [] s.data.toList = .err 5 := by have := HX.out; rw [HC.out, dec_short h1] at this; exact this.symm
        have HR := Lib.hid hr
        clear hr
        go_wp2_with (go_at_call 96; refine (measure_any c _).mono ?_; rintro e w1 ⟨rfl, rfl⟩)
        go_ret2
        exact ⟨(congrArg Ending.returned (decoded_err HR.out)).symm, hown.below⟩
      · have h1' : ¬ r.size < elen c + 1 := by have := HT.out; omega
        by_cases h2 : 48 < x.length + ecount c
        · have hr : dec [] s.data.toList = .err 1 := by have := HX.out; rw [HC.out, dec_long h1 h2] at this; exact this.symm
          have HR := Lib.hid hr
          clear hr
          go_wp2_with (go_at_call 96; refine (measure_any c _).mono ?_; rintro e w1 ⟨rfl, rfl⟩)
          go_ret2
          exact ⟨(congrArg Ending.returned (decoded_err HR.out)).symm, hown.below⟩
        · have e1 := extract_head HC.out (elen c)
          have e2 := extract_tail HC.out (elen c)
          have E1 := Lib.hid e1
          have E2 := Lib.hid e2
          clear e1 e2
          have hge : elen c ≤ t.length := by omega
          go_wp2_with (first
            | (go_at_call 96; refine (measure_any c _).mono ?_; rintro e w1 ⟨rfl, rfl⟩)
            | (go_at_call 97; refine (appendElement_any w.heap.size w _ x t c (r.extract 0 (elen c + 1)) E1.out hge hxl _ hown).mono ?_; rintro e w2 ⟨v2, rfl, hown2⟩))
          go_roundw
          case rel =>
            refine ⟨_, _, rfl, ?_, ?_, ?_, hown2⟩
            · rw [extract_size]; omega
            · rw [E2.out, ← HX.out, HC.out, dec_go h1 h2]
            · rw [List.length_append, ebytes_length c t hge]; omega
          case measure => simp [slen]; omega
    · have hb0 := hown.text (P := Try.prog) 91 9 Try.underlying91 Try.underlying5 Try.underlying9
      have hr : dec [] s.data.toList = .ok x := by
        have := HX.out
        rw [show r.data.toList = [] from List.eq_nil_of_length_eq_zero (by rw [len_eq]; omega), dec_nil] at this
        exact this.symm
      have HR := Lib.hid hr
      clear hr
      go_wp2
      go_ret2
      exact ⟨(congrArg Ending.returned (decoded_ok HR.out)).symm, hown.below⟩

/-- the result of Unpack -/
def unpacked (s : ByteArray) : Value := match dec [] s.data.toList with
  | .ok l => if enc l = s.data.toList then .tuple #[.string ⟨l.toArray⟩, .int .i64 0] else .tuple #[.string ⟨#[]⟩, .int .i64 4]
  | .err n => .tuple #[.string ⟨#[]⟩, .int .i64 n]
theorem unpacked_ok {s : ByteArray} {l : List UInt8} (h : dec [] s.data.toList = .ok l) (h2 : enc l = s.data.toList) : unpacked s = .tuple #[.string ⟨l.toArray⟩, .int .i64 0] := by unfold unpacked; rw [h]; exact if_pos h2
theorem unpacked_form {s : ByteArray} {l : List UInt8} (h : dec [] s.data.toList = .ok l) (h2 : ¬ enc l = s.data.toList) : unpacked s = .tuple #[.string ⟨#[]⟩, .int .i64 4] := by unfold unpacked; rw [h]; exact if_neg h2
theorem unpacked_err {s : ByteArray} {n : Nat} (h : dec [] s.data.toList = .err n) : unpacked s = .tuple #[.string ⟨#[]⟩, .int .i64 n] := by unfold unpacked; rw [h]

theorem dec_err : ∀ (n : Nat) (l out : List UInt8) (k : Nat), l.length = n → dec out l = .err k → k = 5 ∨ k = 1 := by
  intro n
  induction n using Nat.strongRecOn with
  | ind n ih =>
    intro l out k hl h
    match l, hl with
    | [], _ => rw [dec_nil] at h; cases h
    | c :: t, hl =>
      by_cases h1 : t.length < elen c
      · rw [dec_short h1] at h; cases h; exact Or.inl rfl
      · by_cases h2 : 48 < out.length + ecount c
        · rw [dec_long h1 h2] at h; cases h; exact Or.inr rfl
        · rw [dec_go h1 h2] at h
          exact ih (t.drop (elen c)).length (by rw [← hl]; simp; omega) _ _ _ rfl h

theorem text_size (l : List UInt8) : (⟨l.toArray⟩ : ByteArray).size = l.length := rfl

set_option maxRecDepth 100000 in
theorem Unpack_any (s : ByteArray) (w : World) :
    Calls Try.prog 91 #[.string s] w fun e w' => e = .returned (unpacked s) ∧ Below w.heap.size w w' := by
  cases hd : dec [] s.data.toList with
  | err n =>
    have hu := unpacked_err hd
    have hdd := decoded_err hd
    have hn : ((n : Int) == 0) = false := by rcases dec_err _ _ _ _ rfl hd with rfl | rfl <;> rfl
    have HU := Lib.hid hu
    have HD := Lib.hid hdd
    clear hu hdd hd
    go_enter Try.func91, Try.ntmps91
    go_wp2_with (go_at_call 94; refine (decode_any s _).mono ?_; rw [HD.out]; rintro e w1 ⟨rfl, hb1⟩)
    go_ret2
    exact ⟨(congrArg Ending.returned HU.out).symm, hb1⟩
  | ok l =>
    have hll := dec_ok_le _ _ _ _ rfl (by simp) hd
    have hdd := decoded_ok hd
    have HD := Lib.hid hdd
    by_cases he : enc l = s.data.toList
    · have hu := unpacked_ok hd he
      have HU := Lib.hid hu
      clear hu hdd hd
      have hcmp : (!(enc l == s.toList)) = false := by rw [ByteArray.toList_eq, he]; simp
      clear he
      go_enter Try.func91, Try.ntmps91
      go_wp2_with (first
        | (go_at_call 94; refine (decode_any s _).mono ?_; rw [HD.out]; rintro e w1 ⟨rfl, hb1⟩)
        | (go_at_call 85; refine (encode_any ⟨l.toArray⟩ hll _).mono ?_; rintro e w2 ⟨rfl, hb2⟩))
      go_ret2
      exact ⟨(congrArg Ending.returned HU.out).symm, hb1.trans (hb2.mono hb1.size)⟩
    · have hu := unpacked_form hd he
      have HU := Lib.hid hu
      clear hu hdd hd
      have hcmp : (!(enc l == s.toList)) = true := by rw [ByteArray.toList_eq]; simpa using he
      clear he
      go_enter Try.func91, Try.ntmps91
      go_wp2_with (first
        | (go_at_call 94; refine (decode_any s _).mono ?_; rw [HD.out]; rintro e w1 ⟨rfl, hb1⟩)
        | (go_at_call 85; refine (encode_any ⟨l.toArray⟩ hll _).mono ?_; rintro e w2 ⟨rfl, hb2⟩))
      go_ret2
      exact ⟨(congrArg Ending.returned HU.out).symm, hb1.trans (hb2.mono hb1.size)⟩
end Go.Proofs.Ythjaanhkmfiajac
