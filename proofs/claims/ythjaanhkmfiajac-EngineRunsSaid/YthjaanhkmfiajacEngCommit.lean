/- Package engine: commit: what it answers and leaves of the state. No condition but that the state stands. -/
import Derived.Test.YthjaanhkmfiajacEngReplay
import Derived.Test.YthjaanhkmfiajacEngSmall
import Derived.Test.YthjaanhkmfiajacLogRecord
namespace Go.Proofs.Ythjaanhkmfiajac
open Go.RowKit LM

theorem ext_cat {a b : List UInt8} {x y : ByteArray} (hx : x = ⟨a.toArray⟩) (hy : y = ⟨b.toArray⟩) : x ++ y = ⟨(a ++ b).toArray⟩ := by
  subst hx hy
  apply ByteArray.ext
  apply Array.toList_inj.1
  simp

def recB' (W : List Wr) : ByteArray := ⟨(recL W).toArray⟩

section
variable {B : Nat} {W0 : World} {g n : Nat} {s : EM.St}

/-- what is left where a transaction cannot be performed -/
theorem St.ended (hi : EM.Inv n s) {w : World} {vi vb si sb wv : Value} (h : StC B W0 w g s.now s.base (logB s) (durN s) false [] vi vb si sb wv) : St B W0 w g n { s with op := false, l := [] } :=
  ⟨⟨hi.base, hi.len, hi.each, hi.last, EM.wok_nil n, fun _ => rfl, hi.log⟩, _, _, _, _, _, h⟩

set_option maxRecDepth 100000 in
set_option maxHeartbeats 2000000 in
theorem commit_any (w : World) (h : St B W0 w g n s) :
    Calls Try.prog 22 #[.pointer (some ⟨g, 0, none⟩)] w (ActRet B W0 w g n (EM.step s (EM.act 4)).1 (EM.step s (EM.act 4)).2.code) := by
  have hst := EM.step_commit s
  obtain ⟨T, hT⟩ : ∃ T, T = EM.step s (EM.act 4) := ⟨_, rfl⟩
  rw [← hT] at hst ⊢
  cases hop : s.op with
  | false =>
    rw [if_pos hop] at hst
    have HT := Lib.hid hst
    have h' := h
    obtain ⟨hi, vi, vb, si, sb, wv, hc⟩ := h'
    have c6 := hc.c6
    rw [hop] at c6
    have HH := Lib.hid h
    clear hop hc hi h hst hT
    go_enter Try.func22, Try.ntmps22
    go_wp2
    go_ret
    rw [HT.out]
    exact ⟨rfl, HH.out, Soft.refl _⟩
  | true =>
    rw [if_neg (by simp [hop])] at hst
    have HT := Lib.hid hst
    have hinv : EM.Inv n T.1 := by rw [hT]; exact EM.step_inv h.1 (EM.act 4)
    have HINV := Lib.hid hinv
    clear hst hT hinv
    obtain ⟨hi, vi, vb, si, sb, wv, hc⟩ := h
    have hv := hi.now.1
    have c6 := hc.c6
    have c7 := hc.c7
    rw [hop] at c6
    have hoff := hc.off
    obtain ⟨pw, cw, rfl⟩ := hc.writes.isSlice
    have HC := Lib.hid hc
    have HI := Lib.hid hi
    have HOP := Lib.hid hop
    have HOF := Lib.hid hoff
    have h12 := hi.l.len
    clear hc hi hop hoff
    go_enter Try.func22, Try.ntmps22
    go_upto_region 5 with (go_at_call 37; refine (end_any _ HC.out).mono ?_; rintro e w1 ⟨rfl, hc1, hs1, ho1⟩)
    have hw1 := (ho1 _ _ HC.out.writes HOF.out).writes (by omega)
    have hap := VApply_any _ _ s.now s.l w1 hc1.vol.at hv.wideZ hw1
    obtain ⟨pv, cv, qv, dv, rfl, rfl⟩ := hc1.vol.slices
    have c0 := hc1.c0
    have c1 := hc1.c1
    have HC1 := Lib.hid hc1
    have HS1 := Lib.hid hs1
    have HW1 := Lib.hid hw1
    have HAP := Lib.hid hap
    clear hc1 hs1 ho1 hw1 hap c6 c7
    by_cases h0 : (applied s.now s.l).2 = 0
    · have ht := HT.out
      rw [if_neg (by simpa using h0)] at ht
      obtain ⟨hv2, hn2, hwok⟩ := apply_valid hv h0
      have hbn : (applied s.now s.l).1.blocks.length = n := hn2.trans HI.out.now.2
      obtain ⟨V2, hV2⟩ : ∃ V, V = (applied s.now s.l).1 := ⟨_, rfl⟩
      have hap := HAP.out
      rw [h0, ← hV2] at hap
      rw [← hV2] at hv2 hbn
      have hsm := hv2.small
      have hn32 := HI.out.n32
      have hgood := wFault_of HI.out.l
      have hret : recRet s.l n = .tuple #[.string (recB' s.l), .int .i64 0] := if_pos hgood
      obtain ⟨R, hR⟩ : ∃ R, R = recB' s.l := ⟨_, rfl⟩
      rw [← hR] at hret
      have hRs : R.size = (recL s.l).length := by rw [hR]; simp [recB', ByteArray.size]
      obtain ⟨LG, hLG⟩ : ∃ LG, LG = logB s := ⟨_, rfl⟩
      have hlgs : LG.size = (bytesOf s.deals).length := by rw [hLG]; exact log_size s
      have hl4 : LG.size ≤ 4000 := by rw [hlgs]; exact HI.out.log
      have hR4 : R.size ≤ 620 := by
        rw [hRs, rec_len]
        have := Good.body (W := s.l) ⟨hgood, hn32.2⟩
        omega
      have HAP2 := Lib.hid hap
      have HV2 := Lib.hid hV2
      have HBN := Lib.hid hbn
      have HRET := Lib.hid hret
      have HR := Lib.hid hR
      have HRS := Lib.hid hRs
      have HLG := Lib.hid hLG
      have HLS := Lib.hid hlgs
      have H0 := Lib.hid h0
      have hw := IntWalk.i64_in ((LG.size : Int) + (R.size : Int)) (by omega)
      clear hap hV2 hbn hret hR hRs hLG hlgs h0 HAP hn2 hgood hwok hv2
      go_upto_region 11 with (first
        | (go_at_call 38; refine HAP2.out.mono ?_; rintro e w2 ⟨xi, xb, rfl, ho2⟩; obtain ⟨pi, ki, rfl⟩ := ho2.1.isSlice; obtain ⟨pz, kz, rfl⟩ := ho2.2.1.isSlice; have HO2 := Lib.hid ho2; clear ho2)
        | (go_at_call 39; rw [HBN.out]; refine (Record_any _ s.l n hn32.2 _ (HW1.out.keep (below_alloc HO2.out.below _))).mono ?_; rw [HRET.out]; rintro e w3 ⟨rfl, hb3⟩))
      have hbb0 : Below w2.heap.size w2 w3 := below_then (below_alloc (Below.refl _ _) _) hb3
      have hbb := below_then (below_alloc HO2.out.below (.cells #[.slice pi V2.items.length ki, .slice pz n kz] 27)) hb3
      have hc3 := HC1.out.keep hbb
      have d4 := hc3.c4
      rw [← HLG.out] at d4
      by_cases h4 : 4000 < (bytesOf s.deals).length + (recL s.l).length
      · rw [if_pos h4] at ht
        have HT2 := Lib.hid ht
        have t4 : decide ((4000 : Int) < (LG.size : Int) + (R.size : Int)) = true := by
          rw [← HLS.out, ← HRS.out] at h4
          simp
          omega
        have HC3 := Lib.hid hc3
        clear h4 ht hc3
        go_wp2
        go_ret
        rw [HT2.out]
        exact ⟨rfl, St.ended HI.out HC3.out, HS1.out.trans (.of_below hbb)⟩
      · rw [if_neg h4] at ht
        have t4 : decide ((4000 : Int) < (LG.size : Int) + (R.size : Int)) = false := by
          rw [← HLS.out, ← HRS.out] at h4
          simp
          omega
        have hbox : VBox w3 w2.heap.size (.slice pi V2.items.length ki) (.slice pz n kz) := (VBox.new _ _ _).keep hb3
        obtain ⟨e0, e1, _, _⟩ := hbox.at
        have hty : VolTy w3 (.slice pi V2.items.length ki) (.slice pz n kz) V2 := by
          have h1 := (HO2.out.ty (by omega) (by omega)).keep hbb0
          rw [HBN.out] at h1
          exact h1
        have h1 := hc3.setVol hty
        have h2 := h1.setLog (LG ++ R)
        have d0 := hc3.c0
        have d1 := hc3.c1
        have f0 := hc3.fz 0
        have f1 := hc3.fz 1
        have f4 := hc3.fz 4
        have HT2 := Lib.hid ht
        have H2 := Lib.hid h2
        have HS := Lib.hid ((HS1.out.trans (.of_below hbb)).trans ((hc3.soft2 0 1 (.slice pi V2.items.length ki) (.slice pz n kz)).trans (h1.soft 4 (.string (LG ++ R)))))
        clear h4 ht hc3 h1 h2 hty hbox
        go_wp2
        go_ret
        have hinv := HINV.out
        rw [HT2.out] at hinv ⊢
        refine ⟨rfl, ⟨hinv, ?_⟩, HS.out⟩
        have e1 : ({ s with op := false, l := [], deals := s.deals ++ [s.l] } : EM.St).now = V2 := by
          rw [HV2.out]
          exact EM.after_snoc _ _ _
        have e2 : logB { s with op := false, l := [], deals := s.deals ++ [s.l] } = LG ++ R := by
          rw [ext_cat HLG.out HR.out]
          show (⟨(bytesOf (s.deals ++ [s.l])).toArray⟩ : ByteArray) = _
          unfold bytesOf
          rw [List.flatMap_append]
          simp
        have e3 : durN { s with op := false, l := [], deals := s.deals ++ [s.l] } = durN s := by
          show (bytesOf ((s.deals ++ [s.l]).take s.last)).length = (bytesOf (s.deals.take s.last)).length
          rw [List.take_append_of_le_length HI.out.last]
        rw [e1, e2, e3]
        exact ⟨_, _, _, _, _, H2.out⟩
    · have ht := HT.out
      rw [if_pos h0] at ht
      have HT2 := Lib.hid ht
      clear ht
      obtain ⟨cd, hcd⟩ : ∃ c, c = (applied s.now s.l).2 := ⟨_, rfl⟩
      have t1 : (cd != 0) = true := by rw [hcd]; simpa using h0
      have hap := HAP.out
      rw [← hcd] at hap
      have HAP2 := Lib.hid hap
      have HCD := Lib.hid hcd
      clear hap hcd h0 HAP
      go_wp2_with (go_at_call 38; refine HAP2.out.mono ?_; rintro e w2 ⟨xi, xb, rfl, ho2⟩; obtain ⟨pi, ki, rfl⟩ := ho2.1.isSlice; obtain ⟨pz, kz, rfl⟩ := ho2.2.1.isSlice; have hb2 := ho2.below; clear ho2)
      go_ret
      have hb := below_alloc hb2 (.cells #[.slice pi (applied s.now s.l).1.items.length ki, .slice pz (applied s.now s.l).1.blocks.length kz] 27)
      rw [HT2.out]
      exact ⟨(by show Ending.returned (.int .i64 cd) = .returned (.int .i64 (applied s.now s.l).2); rw [HCD.out]), St.ended HI.out (HC1.out.keep hb), HS1.out.trans (.of_below hb)⟩
end
end Go.Proofs.Ythjaanhkmfiajac
