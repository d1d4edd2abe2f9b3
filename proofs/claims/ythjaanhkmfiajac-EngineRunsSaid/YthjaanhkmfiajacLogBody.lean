/- Package log: encodeBody: what it returns. Conditions: at most twelve writes, each of a block below 256 and of at most 48 bytes. -/
import Derived.Test.YthjaanhkmfiajacLogPair
import Derived.Test.YthjaanhkmfiajacPure
namespace Go.Proofs.Ythjaanhkmfiajac
open Go.RowKit PM

/-- a literal of one byte -/
theorem OwnB.lit (e : TypeId) (c : UInt8) (z : Int) (hz : z = c.toNat) (w : World) : OwnB w.heap.size e (.slice (some ⟨w.heap.size, 0, none⟩) 1 1) [c] w (w.alloc (.cells #[.int .u8 z] e)) := by
  subst hz
  exact ⟨⟨rfl, .inr ⟨w.heap.size, 1, _, (0, 0), rfl, Nat.le_refl _, heap_alloc_new w _, by simp, by simp, by unfold maxLen; omega, rfl, rfl⟩⟩, (Below.refl _ _).alloc (Nat.le_refl _) _, by simp⟩
theorem flat_len {W : List Wr} (h12 : W.length ≤ 12) (hs : ∀ x ∈ W, LM.Small x) (k : Nat) : ((W.take k).flatMap LM.wbytes).length ≤ 612 := by
  have h := LM.body_len (W := W.take k) (fun x hx => hs x (List.mem_of_mem_take hx))
  unfold LM.body at h
  rw [List.length_cons, List.length_take] at h
  omega
theorem packed_small {d : ByteArray} (h : d.size ≤ 48) : ∃ t : ByteArray, packed d = .tuple #[.string t, .int .i64 0] ∧ t.data.toList = enc d.data.toList ∧ t.size ≤ 49 ∧ t.size = (enc d.data.toList).length := by
  refine ⟨⟨(enc d.data.toList).toArray⟩, if_pos h, rfl, ?_, rfl⟩
  have := (enc_len1 _ d.data.toList rfl).1
  rw [len_eq] at this
  show (enc d.data.toList).length ≤ 49
  omega
theorem flat_step {W : List Wr} {k : Nat} {x : Wr} (hx : W[k]? = some x) {q : Nat} (hq : x.block = (q : Int)) {t : ByteArray} (ht : t.data.toList = enc x.data.data.toList) (hts : t.size = (enc x.data.data.toList).length) (c : UInt8) :
    (c :: (W.take k).flatMap LM.wbytes) ++ [UInt8.ofNat q, UInt8.ofNat t.size] ++ t.data.toList = c :: (W.take (k + 1)).flatMap LM.wbytes := by
  rw [List.take_add_one, hx, List.flatMap_append, ht, hts]
  have : (some x).toList.flatMap LM.wbytes = UInt8.ofNat q :: UInt8.ofNat (enc x.data.data.toList).length :: enc x.data.data.toList := by
    show LM.wbytes x ++ [] = _
    rw [List.append_nil]
    unfold LM.wbytes
    rw [hq, Int.toNat_natCast]
  rw [this]
  simp

set_option maxRecDepth 100000 in
set_option maxHeartbeats 2000000 in
theorem encodeBody_any (v : Value) (W : List Wr) (w : World) (h : WritesAt w v W) (h12 : W.length ≤ 12) (hs : ∀ x ∈ W, LM.Small x) :
    Calls Try.prog 61 #[v] w fun e w' => ∃ v', e = .returned (.tuple #[v', .int .i64 0]) ∧ OwnB w.heap.size 5 v' (LM.body W) w w' := by
  obtain ⟨i0, hi, hz0, hz1, hz2⟩ := info_parts Try.infoByte
  obtain ⟨p, cap, rfl, hl, hpn, hc⟩ := h
  have hfl := flat_len h12 hs
  have HC := Lib.hid hc
  have HS := Lib.hid hs
  have HFL := Lib.hid hfl
  clear hc hs hpn hfl
  go_enter Try.func61, Try.ntmps61
  go_wp2
  go_loopw [4, 15] (fun out i wr => ∃ (k : Nat) (acc : List UInt8), k ≤ W.length ∧ i = .int .i64 k ∧ acc.length ≤ 613 ∧ Hid (acc = UInt8.ofNat W.length :: (W.take k).flatMap LM.wbytes) ∧ OwnB w.heap.size 5 out acc w wr) (fun _ i _ => W.length - (intOf i).toNat)
  case atStart => exact ⟨0, [UInt8.ofNat W.length], Nat.zero_le _, rfl, by simp, Lib.hid rfl, OwnB.lit _ _ _ (u8_of _ (by omega)).symm _⟩
  case round =>
    obtain ⟨k, acc, hk, rfl, hlen, HA, hown⟩ := hrel
    obtain ⟨po, co, rfl⟩ := own_len hown
    by_cases hlt : k < W.length
    · obtain ⟨x, hx⟩ : ∃ x, W[k]? = some x := ⟨W[k], List.getElem?_eq_getElem hlt⟩
      obtain ⟨b, off, rfl, hbl, c0, c1⟩ := HC.out k x hx
      obtain ⟨s0, s1, s2⟩ := HS.out x (List.mem_of_getElem? hx)
      obtain ⟨q, hq⟩ : ∃ q : Nat, x.block = (q : Int) := ⟨x.block.toNat, by omega⟩
      obtain ⟨t, htp, htl, ht49, hts⟩ := packed_small s2
      have hst := flat_step hx hq htl hts (UInt8.ofNat W.length)
      rw [← HA.out] at hst
      have hnl : (acc ++ [UInt8.ofNat q, UInt8.ofNat t.size] ++ t.data.toList).length ≤ 613 := by
        rw [hst]
        have := HFL.out (k + 1)
        rw [List.length_cons]
        omega
      replace c0 := (hown.below.cell (p := ⟨b, _, none⟩) hbl).trans c0
      replace c1 := (hown.below.cell (p := ⟨b, _, none⟩) hbl).trans c1
      rw [hq] at c0 s0 s1
      have HST := Lib.hid hst
      have HTP := Lib.hid htp
      have HO := Lib.hid hown
      have HNL := Lib.hid hnl
      clear hst htp hts htl hx hown hnl
      go_wp2_with (first
        | (go_at_call 75; refine (Pack_any _ _).mono ?_; rw [HTP.out]; rintro e w1 ⟨rfl, hb1⟩; have box0 := (hb1.cell (p := ⟨wr.heap.size, 0, none⟩) (by simp)).trans (show (wr.alloc (.cells #[.int .i64 (q : Int), .string x.data] 61)).cell? ⟨wr.heap.size, 0, none⟩ = some (.int .i64 (q : Int)) by simp))
        | (at_builtin; refine wpList_own_two rfl (.tmp 28) (.tmp 35) 91 rfl w.heap.size 5 i0 Try.underlying91 hi hz0 hz1 hz2 _ _ rfl w _ (UInt8.ofNat q) (UInt8.ofNat t.size) _ _ (u8_of _ (by omega)).symm (u8_of _ (by omega)).symm ((HO.out.alloc _).past hb1) rfl (by omega) ?_; intro v2 w2 hown2)
        | (at_builtin; refine wpList_own_text rfl (.tmp 37) (.tmp 38) 91 9 rfl w.heap.size 5 i0 Try.underlying91 Try.underlying9 hi hz0 hz1 hz2 _ _ rfl w hown2 t rfl (by simp; omega) ?_; intro v3 w3 hown3))
      go_roundw
      case rel => exact ⟨k + 1, _, by omega, by go_num, HNL.out, Lib.hid HST.out, hown3⟩
      case measure => simp [intOf]; omega
    · have hke : k = W.length := by omega
      have ha := HA.out
      rw [hke, List.take_length] at ha
      have HE := Lib.hid ha
      subst hke
      clear HA ha
      go_wp2
      go_ret2
      exact ⟨_, rfl, hown.cast HE.out⟩
end Go.Proofs.Ythjaanhkmfiajac
