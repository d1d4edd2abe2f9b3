/- Package log: Record: what it returns. Condition: at most 32 blocks. -/
import Derived.Test.YthjaanhkmfiajacLogBody
import Derived.Test.YthjaanhkmfiajacVolWrites
namespace Go.Proofs.Ythjaanhkmfiajac
open Go.RowKit PM

/-- the result of Record -/
def recRet (W : List Wr) (n : Nat) : Value := if wFault W (n : Int) = 0 then .tuple #[.string ⟨(LM.recL W).toArray⟩, .int .i64 0] else .tuple #[.string ⟨#[]⟩, .int .i64 (wFault W (n : Int))]
theorem rec_join (W : List Wr) : [114] ++ [UInt8.ofNat ((LM.body W).length / 256), UInt8.ofNat ((LM.body W).length % 256)] ++ LM.body W = LM.front (LM.body W) := by
  unfold LM.front
  simp
theorem rec_seal (l : List UInt8) : l ++ [UInt8.ofNat ((LM.sums (1, 0) l).2 / 256), UInt8.ofNat ((LM.sums (1, 0) l).2 % 256)] ++ [UInt8.ofNat ((LM.sums (1, 0) l).1 / 256), UInt8.ofNat ((LM.sums (1, 0) l).1 % 256)] = l ++ LM.sealL l := by
  unfold LM.sealL
  simp

set_option maxRecDepth 100000 in
set_option maxHeartbeats 2000000 in
theorem Record_any (v : Value) (W : List Wr) (n : Nat) (hn : n ≤ 32) (w : World) (h : WritesAt w v W) :
    Calls Try.prog 39 #[v, .int .i64 (n : Int)] w fun e w' => e = .returned (recRet W n) ∧ Below w.heap.size w w' := by
  obtain ⟨i0, hi, hz0, hz1, hz2⟩ := info_parts Try.infoByte
  by_cases hf : wFault W (n : Int) = 0
  · have hg : LM.Good n W := ⟨hf, hn⟩
    have hr : recRet W n = .tuple #[.string ⟨(LM.recL W).toArray⟩, .int .i64 0] := if_pos hf
    rw [hr]
    have h12 := (wFault_ok hf).len
    have hsm := hg.small
    have hbl := hg.body
    have hb1 := LM.body_pos W
    obtain ⟨r, hrL⟩ : ∃ r, r = LM.recL W := ⟨_, rfl⟩
    rw [← hrL]
    obtain ⟨b, hbB⟩ : ∃ b, b = LM.body W := ⟨_, rfl⟩
    rw [← hbB] at hbl hb1
    have hj := rec_join W
    have hsl := rec_seal (LM.front (LM.body W))
    have hrf : LM.front (LM.body W) ++ LM.sealL (LM.front (LM.body W)) = r := hrL.symm
    rw [← hbB] at hj hsl hrf
    rw [hrf] at hsl
    have hfl : (LM.front b).length ≤ 616 := by unfold LM.front; simp; omega
    obtain ⟨f, hfF⟩ : ∃ f, f = LM.front b := ⟨_, rfl⟩
    rw [← hfF] at hj hsl hfl
    have hs1 := (LM.sums_lt f (1, 0) (by simp) (by simp)).1
    have hs2 := (LM.sums_lt f (1, 0) (by simp) (by simp)).2
    obtain ⟨x, hx⟩ : ∃ x, x = (LM.sums (1, 0) f).1 := ⟨_, rfl⟩
    obtain ⟨y, hy⟩ : ∃ y, y = (LM.sums (1, 0) f).2 := ⟨_, rfl⟩
    rw [← hx] at hs1 hsl
    rw [← hy] at hs2 hsl
    obtain ⟨f3, hf3⟩ : ∃ f3, [114] ++ [UInt8.ofNat (b.length / 256), UInt8.ofNat (b.length % 256)] = f3 := ⟨_, rfl⟩
    obtain ⟨f6, hf6⟩ : ∃ f6, f ++ [UInt8.ofNat (y / 256), UInt8.ofNat (y % 256)] = f6 := ⟨_, rfl⟩
    rw [hf3] at hj
    rw [hf6] at hsl
    have hl3 : f3.length ≤ 3 := by rw [← hf3]; simp
    have hl6 : f6.length ≤ 620 := by rw [← hf6]; simp; omega
    have HF3 := Lib.hid hf3
    have HF6 := Lib.hid hf6
    clear hf3 hf6
    have hcs : ∀ (v : Value) (w : World), BytesAt w v f → Calls Try.prog 63 #[v] w fun e w' => e = .returned (.tuple #[.int .i64 (x : Int), .int .i64 (y : Int)]) ∧ w' = w := by
      intro v w h
      rw [hx, hy]
      exact checksum_any v f (by omega) w h
    have heb : ∀ (v : Value) (w : World), WritesAt w v W → Calls Try.prog 61 #[v] w fun e w' => ∃ v', e = .returned (.tuple #[v', .int .i64 0]) ∧ OwnB w.heap.size 5 v' b w w' := by
      intro v w h
      rw [hbB]
      exact encodeBody_any v W w h h12 hsm
    have hcw : ∀ (v : Value) (w : World), WritesAt w v W → Calls Try.prog 33 #[v, .int .i64 (n : Int)] w fun e w' => e = .returned (.int .i64 0) ∧ Below w.heap.size w w' := by
      intro v w h
      have := VWrites_any v W n w h
      rw [hf] at this
      exact this
    have HCS := Lib.hid hcs
    have HEB := Lib.hid heb
    have HCW := Lib.hid hcw
    have HJ := Lib.hid hj
    have HSL := Lib.hid hsl
    have HW := Lib.hid h
    obtain ⟨p, cap, rfl, h1, h2, h3⟩ := h
    clear h1 h2 h3
    clear hcs heb hcw hj hsl hrf hr hf hg hx hy hfF hbB hrL hsm
    go_enter Try.func39, Try.ntmps39
    go_wp2_with (go_at_call 33; refine (HCW.out _ _ HW.out).mono ?_; rintro e w1 ⟨rfl, hb1⟩; have hw1 := HW.out.keep hb1)
    go_wp2_with (go_at_call 61; refine (HEB.out _ _ hw1).mono ?_; rintro e w2 ⟨v2, rfl, ho2⟩; have hb2 := hb1.trans (ho2.below.mono hb1.size); have HBY := Lib.hid ho2.bytes; obtain ⟨p2, c2, rfl⟩ := own_len ho2; clear ho2 hb1 hw1)
    go_simp
    go_wp2_with (first
      | (go_at_call 62; with_reducible refine (appendPair_any w2.heap.size _ [114] b.length (by omega) (by simp) w2 _ (OwnB.lit _ 114 114 (by decide) w2)).mono ?_; rintro e w3 ⟨v3, rfl, ho3⟩; have HB3 := Lib.hid (HBY.out.keep ho3.below); replace ho3 := ho3.cast HF3.out; obtain ⟨p3, c3, rfl⟩ := own_len ho3; have HO3 := Lib.hid ho3; clear ho3)
      | (at_builtin; refine wpList_own_bytes rfl (.tmp 30) (.tmp 31) 91 rfl w2.heap.size 5 i0 Try.underlying91 hi hz0 hz1 hz2 _ _ rfl w2 _ HO3.out _ b (by omega) HB3.out rfl (by omega) ?_; intro v4 w4 ho4; replace ho4 := ho4.cast HJ.out; obtain ⟨p4, c4, rfl⟩ := own_len ho4; have HO4 := Lib.hid ho4; clear ho4)
      | (go_at_call 63; refine (HCS.out _ _ HO4.out.bytes).mono ?_; rintro e w5 ⟨rfl, rfl⟩)
      | (go_at_call 62; with_reducible refine (appendPair_any w2.heap.size _ f y (by omega) (by omega) w2 _ HO4.out).mono ?_; rintro e w6 ⟨v6, rfl, ho6⟩; replace ho6 := ho6.cast HF6.out; obtain ⟨p6, c6, rfl⟩ := own_len ho6; have HO6 := Lib.hid ho6; clear ho6)
      | (go_at_call 62; with_reducible refine (appendPair_any w2.heap.size _ _ x (by omega) (by omega) w2 _ HO6.out).mono ?_; rintro e w7 ⟨v7, rfl, ho7⟩; replace ho7 := ho7.cast HSL.out; obtain ⟨p7, c7, rfl⟩ := own_len ho7; have ht := ho7.text (P := Try.prog) 91 9 Try.underlying91 Try.underlying5 Try.underlying9; have HO7 := Lib.hid ho7; clear ho7))
    go_ret2
    exact ⟨rfl, hb2.trans (HO7.out.below.mono hb2.size)⟩
  · have hr : recRet W n = .tuple #[.string ⟨#[]⟩, .int .i64 (wFault W (n : Int))] := if_neg hf
    rw [hr]
    obtain ⟨f, hff⟩ : ∃ f, f = wFault W (n : Int) := ⟨_, rfl⟩
    have hcw : ∀ (v : Value) (w : World), WritesAt w v W → Calls Try.prog 33 #[v, .int .i64 (n : Int)] w fun e w' => e = .returned (.int .i64 f) ∧ Below w.heap.size w w' := by
      intro v w h
      rw [hff]
      exact VWrites_any v W n w h
    rw [← hff] at hf ⊢
    have hd : (f == 0) = false := by simpa using hf
    have HCW := Lib.hid hcw
    have HW := Lib.hid h
    obtain ⟨p, cap, rfl, h1, h2, h3⟩ := h
    clear h1 h2 h3
    clear hcw hr hff hf
    go_enter Try.func39, Try.ntmps39
    go_wp2_with (go_at_call 33; refine (HCW.out _ _ HW.out).mono ?_; rintro e w1 ⟨rfl, hb1⟩)
    go_ret2
    exact ⟨rfl, hb1⟩
end Go.Proofs.Ythjaanhkmfiajac
