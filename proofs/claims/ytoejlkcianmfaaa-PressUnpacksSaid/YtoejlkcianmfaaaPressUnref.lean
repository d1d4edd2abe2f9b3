/- The document's UnpackedOf: it returns what Unpack returns. Condition: the text has at most 2^62 bytes. -/
import Derived.Test.YtoejlkcianmfaaaPressDecode
import Derived.Test.YtoejlkcianmfaaaPressRef
namespace Go.Proofs.Ytoejlkcianmfaaa
open Go.RowKit PM

theorem slice_mid (s : ByteArray) (a b : Nat) (za zb : Int) (ha : za = a) (hb : zb = b) (hab : a ≤ b) (hbs : b ≤ s.size) :
    (Instr.slice 9 (.string s) (some (.int .i64 za)) (some (.int .i64 zb)) none).run Try.prog = fun W => .ok (.string (s.extract a b)) W := by
  funext W
  subst ha hb
  rw [run_slice_string W 9 s .i64 .i64 _ _ Try.underlying9 (by omega) (by omega) (by omega)]
  rw [show ((a : Int)).toNat = a by omega, show ((b : Int)).toNat = b by omega]

theorem extract_mid (s : ByteArray) (a b : Nat) : (s.extract a b).data.toList = (s.data.toList.drop a).take (b - a) := by
  have : (s.extract a b).data = s.data.extract a b := by simp
  rw [this, Array.toList_extract]

def URel (s : ByteArray) (W0 : World) (a b : Value) (wr : World) : Prop :=
  ∃ (o : ByteArray) (i : Nat), a = .string o ∧ b = .int .i64 i ∧ i ≤ s.size ∧ dec o.data.toList (s.data.toList.drop i) = dec [] s.data.toList ∧ o.size ≤ 48 ∧ Below W0.heap.size W0 wr

theorem u_go {s o ex : ByteArray} {i n : Nat} {c : UInt8} {t : List UInt8} {W0 w1 : World} {z : Int} (hz : z = ((i + 1 + n : Nat) : Int)) (hn : n = elen c) (hlt : i < s.size) (htl : t = s.data.toList.drop (i + 1)) (hx : dec o.data.toList (c :: t) = dec [] s.data.toList)
    (h1 : ¬ t.length < elen c) (h2 : ¬ 48 < o.size + ecount c) (he : ex.data.toList = o.data.toList ++ ebytes c t) (hb : Below W0.heap.size W0 w1) : URel s W0 (.string ex) (.int .i64 z) w1 := by
  have hl : t.length = s.size - (i + 1) := by rw [htl, List.length_drop, len_eq]
  have hes : ex.size = o.size + ecount c := by rw [← len_eq, he, List.length_append, ebytes_length c t (by omega), len_eq]
  rw [dec_go h1 (by rw [len_eq]; exact h2)] at hx
  refine ⟨ex, i + 1 + n, rfl, by rw [hz], by omega, ?_, by omega, hb⟩
  rw [he, ← hx, htl, List.drop_drop, hn]

theorem drop_cons {s : ByteArray} {i : Nat} (hi : i < s.size) : s.data.toList.drop i = s[i] :: s.data.toList.drop (i + 1) := by
  have h := List.drop_eq_getElem_cons (l := s.data.toList) (i := i) (by rw [len_eq]; exact hi)
  rw [h]
  rfl

set_option maxRecDepth 100000 in
set_option maxHeartbeats 1000000 in
theorem UnpackedOf_any (s : ByteArray) (hs : s.size ≤ 4611686018427387904) (w : World) :
    Calls Try.prog 8 #[.string s] w fun e w' => e = .returned (unpacked s) ∧ Below w.heap.size w w' := by
  go_enter Try.func8, Try.ntmps8
  go_wp2
  go_loopw [4, 5] (fun a b wr => URel s w a b wr) (fun _ b _ => s.size - (intOf b).toNat)
  case atStart => exact ⟨⟨#[]⟩, 0, rfl, rfl, Nat.zero_le _, rfl, Nat.zero_le _, Below.refl _ _⟩
  case round =>
    obtain ⟨o, i, rfl, rfl, hi, hx, hol, hb⟩ := hrel
    have HX := Lib.hid hx
    clear hx
    by_cases hlt : i < s.size
    · obtain ⟨c, hc⟩ : ∃ c, c = s[i] := ⟨_, rfl⟩
      have hct := drop_cons hlt
      rw [← hc] at hct
      have h0 : (Instr.index 9 (.string s) (.int .i64 (i : Int))).run Try.prog = fun W => .ok (.int .u8 (c.toNat : Int)) W := by
        funext W
        rw [index_at s i (i : Int) (by omega) (by omega) hlt W, hc]
      obtain ⟨t, ht⟩ : ∃ t, t = s.data.toList.drop (i + 1) := ⟨_, rfl⟩
      rw [← ht] at hct
      have htl : t.length = s.size - (i + 1) := by rw [ht, List.length_drop, len_eq]
      have hc256 := c.toNat_lt
      have HC := Lib.hid hct
      have HT := Lib.hid ht
      have HTL := Lib.hid htl
      clear hct hc ht htl
      by_cases hlo : (c.toNat : Int) < 128
      · have e1 := elen_lo hlo
        have e2 := ecount_lo hlo
        by_cases h1 : t.length < elen c
        · have h1' : ((s.size : Int) < (i : Int) + 1 + ((c.toNat : Int) + 1)) := by have := HTL.out; omega
          have hr : dec [] s.data.toList = .err 5 := by have := HX.out; rw [HC.out, dec_short h1] at this; exact this.symm
          have HR := Lib.hid hr
          clear hr e1 e2 h1
          go_wp2
          go_ret2
          exact ⟨(congrArg Ending.returned (unpacked_err HR.out)).symm, hb⟩
        · have h1' : ¬ ((s.size : Int) < (i : Int) + 1 + ((c.toNat : Int) + 1)) := by have := HTL.out; omega
          have hsl := slice_mid s (i + 1) (i + 1 + (c.toNat + 1)) ((i : Int) + 1) ((i : Int) + 1 + ((c.toNat : Int) + 1)) (by omega) (by omega) (by omega) (by have := HTL.out; omega)
          obtain ⟨ex, hex⟩ : ∃ ex, ex = s.extract (i + 1) (i + 1 + (c.toNat + 1)) := ⟨_, rfl⟩
          rw [← hex] at hsl
          have hexl : ex.data.toList = ebytes c t := by rw [hex, extract_mid, ebytes_lo t hlo, ← HT.out]; congr 1; omega
          have hexs : ex.size = c.toNat + 1 := by rw [← len_eq, hexl, ebytes_length c t (by omega), e2]
          have hexs1 : ex.size ≤ c.toNat + 1 := by omega
          have hexs2 : c.toNat + 1 ≤ ex.size := by omega
          have hcat : (o ++ ex).data.toList = o.data.toList ++ ebytes c t := by rw [cat_eq, hexl]
          have HCAT := Lib.hid hcat
          clear hex hexl hexs hcat
          by_cases h2 : 48 < o.size + ecount c
          · have hr : dec [] s.data.toList = .err 1 := by have := HX.out; rw [HC.out, dec_long h1 (by rw [len_eq]; exact h2)] at this; exact this.symm
            have HR := Lib.hid hr
            have h2' : 48 < o.size + (c.toNat + 1) := by omega
            clear hr e1 e2 h1 h2
            go_wp2
            go_ret2
            exact ⟨(congrArg Ending.returned (unpacked_err HR.out)).symm, hb⟩
          · have h2' : ¬ 48 < o.size + (c.toNat + 1) := by omega
            have H1 := Lib.hid h1
            have H2 := Lib.hid h2
            have E1 := Lib.hid e1
            clear e1 e2 h1 h2
            go_wp2
            go_roundw
            case rel => exact u_go (n := c.toNat + 1) (by omega) E1.out.symm hlt HT.out (HC.out ▸ HX.out) H1.out H2.out HCAT.out hb
            case measure => simp [intOf]; omega
      · have e1 := elen_hi hlo
        have e2 := ecount_hi hlo
        by_cases h1 : t.length < elen c
        · have h1' : ((s.size : Int) < (i : Int) + 1 + 1) := by have := HTL.out; omega
          have hr : dec [] s.data.toList = .err 5 := by have := HX.out; rw [HC.out, dec_short h1] at this; exact this.symm
          have HR := Lib.hid hr
          clear hr e1 e2 h1
          go_wp2
          go_ret2
          exact ⟨(congrArg Ending.returned (unpacked_err HR.out)).symm, hb⟩
        · have h1' : ¬ ((s.size : Int) < (i : Int) + 1 + 1) := by have := HTL.out; omega
          have hsl := slice_mid s (i + 1) (i + 2) ((i : Int) + 1) ((i : Int) + 2) (by omega) (by omega) (by omega) (by have := HTL.out; omega)
          obtain ⟨ex, hex⟩ : ∃ ex, ex = s.extract (i + 1) (i + 2) := ⟨_, rfl⟩
          rw [← hex] at hsl
          obtain ⟨d, t', hdt⟩ : ∃ d t', t = d :: t' := by
            cases hl : t with
            | nil => rw [hl, e1] at h1; simp at h1
            | cons d t' => exact ⟨d, t', rfl⟩
          have hexl : ex.data.toList = [d] := by rw [hex, extract_mid, ← HT.out, hdt, show i + 2 - (i + 1) = 1 by omega]; rfl
          have hexs : ex.size = 1 := by rw [← len_eq, hexl]; rfl
          have hexs1 : ex.size ≤ 1 := by omega
          have hexs2 : 1 ≤ ex.size := by omega
          have heb : ebytes c t = List.replicate (c.toNat - 125) d := by rw [ebytes_hi t hlo, hdt]; rfl
          have hec : ecount c = c.toNat - 125 := e2
          have HEX := Lib.hid hexl
          have HEB := Lib.hid heb
          have HEC := Lib.hid hec
          have H1 := Lib.hid h1
          have E1 := Lib.hid e1
          clear hex hexl hexs heb hec hdt e1 e2 h1
          go_wp2
          go_loopw [4, 8] (fun a k wr => ∃ (q : ByteArray) (m : Nat), a = .string q ∧ k = .int .i64 m ∧ m ≤ c.toNat - 125 ∧ q.data.toList = o.data.toList ++ List.replicate m d ∧ q.size = o.size + m ∧ Below w.heap.size w wr) (fun _ k _ => c.toNat - 125 - (intOf k).toNat)
          case atStart => exact ⟨o, 0, rfl, rfl, Nat.zero_le _, by simp, rfl, hb⟩
          case round =>
            obtain ⟨q, m, rfl, rfl, hm, hq, hqs, hb2⟩ := hrel
            have HQ := Lib.hid hq
            have HQS := Lib.hid hqs
            have hqb : q.size ≤ 300 := by omega
            clear hq hqs
            by_cases hmlt : m < c.toNat - 125
            · have hcat : (q ++ ex).data.toList = o.data.toList ++ List.replicate (m + 1) d := by rw [cat_eq, HQ.out, HEX.out, List.append_assoc, List.replicate_succ']
              have hcs : (q ++ ex).size = o.size + (m + 1) := by rw [← len_eq, hcat, List.length_append, len_eq, List.length_replicate]
              have HCAT := Lib.hid hcat
              have HCS := Lib.hid hcs
              clear hcat hcs
              go_wp2
              go_roundw
              case rel => exact ⟨q ++ ex, m + 1, rfl, by go_num, by omega, HCAT.out, HCS.out, hb2⟩
              case measure => simp [intOf]; omega
            · have hme : m = c.toNat - 125 := by omega
              have hqe : q.data.toList = o.data.toList ++ ebytes c t := by rw [HQ.out, HEB.out, hme]
              have hqs2 : q.size = o.size + ecount c := by rw [HQS.out, HEC.out, hme]
              have HQE := Lib.hid hqe
              clear hqe
              have HME := Lib.hid hme
              clear hme
              by_cases h2 : 48 < o.size + ecount c
              · have hr : dec [] s.data.toList = .err 1 := by have := HX.out; rw [HC.out, dec_long H1.out (by rw [len_eq]; exact h2)] at this; exact this.symm
                have HR := Lib.hid hr
                have h2' : 48 < q.size := by omega
                clear hr hqs2 h2
                go_wp2
                go_ret2
                exact ⟨(congrArg Ending.returned (unpacked_err HR.out)).symm, hb2⟩
              · have h2' : ¬ 48 < q.size := by omega
                have H2 := Lib.hid h2
                clear hqs2 h2
                go_wp2
                go_roundw
                case rel => exact u_go (n := 1) (by omega) E1.out.symm hlt HT.out (HC.out ▸ HX.out) H1.out H2.out HQE.out hb2
                case measure => simp [intOf]; omega
    · have hd : dec [] s.data.toList = .ok o.data.toList := by
        have := HX.out
        rw [List.drop_of_length_le (by rw [len_eq]; omega), dec_nil] at this
        exact this.symm
      have hp : packed o = .tuple #[.string ⟨(enc o.data.toList).toArray⟩, .int .i64 0] := if_pos hol
      have HP := Lib.hid hp
      clear hp
      by_cases he : enc o.data.toList = s.data.toList
      · have hu := unpacked_ok hd he
        have HU := Lib.hid hu
        have hcmp : (!(enc o.data.toList == s.toList)) = false := by rw [ByteArray.toList_eq, he]; simp
        clear hu hd he
        go_wp2_with (go_at_call 6; refine (PackedOf_any o _).mono ?_; rw [HP.out]; rintro e w2 ⟨rfl, hb2⟩)
        go_ret2
        exact ⟨(congrArg Ending.returned HU.out).symm, hb.trans (hb2.mono hb.size)⟩
      · have hu := unpacked_form hd he
        have HU := Lib.hid hu
        have hcmp : (!(enc o.data.toList == s.toList)) = true := by rw [ByteArray.toList_eq]; simpa using he
        clear hu hd he
        go_wp2_with (go_at_call 6; refine (PackedOf_any o _).mono ?_; rw [HP.out]; rintro e w2 ⟨rfl, hb2⟩)
        go_ret2
        exact ⟨(congrArg Ending.returned HU.out).symm, hb.trans (hb2.mono hb.size)⟩
end Go.Proofs.Ytoejlkcianmfaaa
