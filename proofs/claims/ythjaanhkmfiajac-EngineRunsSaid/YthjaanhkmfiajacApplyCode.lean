/- volume.Apply: what it returns. Condition: the blocks are ints. -/
import Derived.Test.YthjaanhkmfiajacVolBlock
import Derived.Test.YthjaanhkmfiajacVolCheck
import Derived.Test.YthjaanhkmfiajacVolWrites
import Derived.Test.YthjaanhkmfiajacVolCopy
namespace Go.Proofs.Ythjaanhkmfiajac
open Go.RowKit

theorem dropW_at {V : Vol} {x : Wr} {m : Nat} (h : x.block = (m : Int)) : dropW V ⟨(m : Int), ⟨#[]⟩⟩ = dropW V x := by
  unfold dropW
  rw [h]

set_option maxRecDepth 100000 in
set_option maxHeartbeats 8000000 in
theorem VApply_any (v u : Value) (V : Vol) (W : List Wr) (w : World) (h : VolAt w v V) (hwz : WideZ V.blocks) (hw : WritesAt w u W) :
    Calls Try.prog 38 #[v, u] w (RetVol (applied V W).1 (applied V W).2 w) := by
  have h' := h
  obtain ⟨vi, vb, rfl, hI, hZ⟩ := h'
  obtain ⟨pi, ci, rfl, hli, _⟩ := hI
  obtain ⟨pz, cz, rfl, hlz, _⟩ := hZ
  have HV := Lib.hid h
  have HWZ := Lib.hid hwz
  have HW := Lib.hid hw
  have hw' := hw
  obtain ⟨pw, cw, rfl, hlw, _, hcw⟩ := hw'
  have HCW := Lib.hid hcw
  clear h hw hcw hwz
  have hP0 := Past22.start w (.slice pi V.items.length ci) (.slice pz V.blocks.length cz) (.slice none 0 0) (.slice none 0 0) 27
  cases hm : volB V with
  | false =>
    have hr : applied V W = (⟨[], []⟩, 7) := by unfold applied; rw [if_pos hm]
    rw [hr]
    have hk : vchk V = 7 := by unfold vchk; rw [hm]; rfl
    have HK := Lib.hid hk
    clear hr hm hk
    go_enter Try.func38, Try.ntmps38
    go_wp2_with (go_at_call 56; refine (VCheck_any _ V _ (HV.out.keep hP0.box) HWZ.out).mono ?_; rw [HK.out]; rintro e w1 ⟨rfl, hb1⟩; have hP : Past22 w _ _ _ _ _ w1 := below_then hP0 hb1; obtain ⟨a0, a1, b0, b1⟩ := hP.cells; obtain ⟨g0, g1, hs⟩ := hP.frz)
    exact bodyPost_ret (v := .tuple #[.agg #[.slice none 0 0, .slice none 0 0], .int .i64 7]) (by simp [results, Try.results38, go_sem, b0, b1]) rfl (RetVol.none (below_res hP.box _ _))
  | true =>
    have hk : vchk V = 0 := by unfold vchk; rw [hm]; rfl
    have HK := Lib.hid hk
    have hvk := volB_iff.1 hm
    have hlen := hvk.len
    have hl1 := hlen.1
    have hl2 := hlen.2
    have hmay := may_len hvk.may
    have HVK0 := Lib.hid hvk
    clear hk
    by_cases hf : wFault W V.blocks.length = 0
    · rw [applied_ok hm hf]
      obtain ⟨RES, hRES⟩ : ∃ RES, RES = keepAll (W.foldl dropW V) W := ⟨_, rfl⟩
      rw [← hRES]
      have HRES := Lib.hid hRES
      clear hRES
      have HF := Lib.hid hf
      clear hf hm hlen hvk
      go_enter Try.func38, Try.ntmps38
      go_wp2_with (first
        | (go_at_call 56; refine (VCheck_any _ V _ (HV.out.keep hP0.box) HWZ.out).mono ?_; rw [HK.out]; rintro e w1 ⟨rfl, hb1⟩; have hP : Past22 w _ _ _ _ _ w1 := below_then hP0 hb1; obtain ⟨a0, a1, b0, b1⟩ := hP.cells; obtain ⟨g0, g1, hs⟩ := hP.frz)
        | (go_at_call 33; refine (VWrites_any _ W _ _ (HW.out.keep hP.box)).mono ?_; rw [HF.out]; rintro e w2 ⟨rfl, hb2⟩; have hP2 := hP.next hb2; clear a0 a1 b0 b1 g0 g1 hs; obtain ⟨a0, a1, b0, b1⟩ := hP2.cells; obtain ⟨g0, g1, hs⟩ := hP2.frz)
        | (go_at_call 9; refine (VCopy_any _ V _ (HV.out.keep hP2.box) (by omega) (by omega)).mono ?_; rintro e w3 ⟨vi3, vb3, rfl, hown3⟩; obtain ⟨g, cap3, rfl, hg1, hg2, hg3⟩ := hown3.2.1.shape (by omega); obtain ⟨p3, c3, rfl⟩ : ∃ p c, vi3 = .slice p V.items.length c := (by rcases hown3.1.1.2 with ⟨rfl, hn⟩ | ⟨_, cap, _, rfl, _⟩; exact ⟨none, 0, by rw [hn]⟩; exact ⟨_, cap, rfl⟩); have hst0 := ApSt.start hP2 rfl hown3; have hbel0 : Below w.heap.size w _ := below_alloc (below_then hP2.box hown3.below) (.cells #[.slice p3 V.items.length c3, .slice (some ⟨g, 0, none⟩) V.blocks.length cap3] 27)))
      clear hown3 hb2 hb1 hP hP2 hP0 hg1 hg2 a0 a1 b0 b1 g0 g1 hs
      go_loopw [34] (fun i wr => ∃ (k : Nat) (vk : Value), k ≤ W.length ∧ i = .int .i64 k ∧ ApSt (w.heap.size + 2) w3.heap.size (w.heap.size + 1) g cap3 wr vk ((W.take k).foldl dropW V) ∧ VOk ((W.take k).foldl dropW V) ∧ Below w.heap.size w wr) (fun i _ => W.length - (intOf i).toNat)
      case atStart => exact ⟨0, _, Nat.zero_le _, rfl, hst0, HVK0.out, hbel0⟩
      case round =>
        clear hst0 hbel0
        obtain ⟨k, vk, hk, rfl, hst, hvk, hbel⟩ := hrel
        obtain ⟨Vk, hVk⟩ : ∃ Vk, Vk = (W.take k).foldl dropW V := ⟨_, rfl⟩
        rw [← hVk] at hst hvk
        have hlenk : Vk.blocks.length = V.blocks.length := by rw [hVk]; exact dropAll_len _ _
        have hitk : Vk.items.length ≤ 24 := by rw [hVk]; exact Nat.le_trans (dropAll_le _ _) hmay
        have HVK := Lib.hid hVk
        have HLK := Lib.hid hlenk
        have HVOK := Lib.hid hvk
        clear hVk hvk hlenk
        by_cases hlt : k < W.length
        · obtain ⟨x, hx⟩ : ∃ x, W[k]? = some x := ⟨W[k], List.getElem?_eq_getElem hlt⟩
          obtain ⟨bw, offw, rfl, hbw, c0, c1⟩ := HCW.out k x hx
          replace c0 := (hbel.cell (p := ⟨bw, _, none⟩) hbw).trans c0
          replace c1 := (hbel.cell (p := ⟨bw, _, none⟩) hbw).trans c1
          have hwx := wf_all HF.out hx
          obtain ⟨m, hm⟩ : ∃ m : Nat, x.block = (m : Int) := ⟨x.block.toNat, by omega⟩
          have hml : m < Vk.blocks.length := by rw [HLK.out]; omega
          have hfs := fold_snoc hx V
          rw [← HVK.out, ← dropW_at hm] at hfs
          have hvk2 := dropW_ok HVOK.out (x := ⟨(m : Int), ⟨#[]⟩⟩) (by show 0 ≤ (m : Int) ∧ (m : Int) < _; omega)
          have HVK2 := Lib.hid hvk2
          have HFS := Lib.hid hfs
          rw [hm] at c0
          have HST := Lib.hid hst
          clear hx hwx hfs hst hm hvk2
          go_wp2_with (go_at_call 59; refine (emptyBlock_any _ _ _ g cap3 _ vk Vk (HST.out.past (below_alloc (Below.refl _ _) _)) HVOK.out m hml).mono ?_; rintro e w5 ⟨rfl, v5, st5, hb5⟩; have HST5 := Lib.hid st5; clear st5)
          go_roundw
          case rel => exact ⟨k + 1, v5, by omega, by go_num, by rw [HFS.out]; exact HST5.out, by rw [HFS.out]; exact HVK2.out.1, (below_alloc hbel _).trans (hb5.mono (by omega))⟩
          case measure => simp [intOf]; omega
        · have hkw : k = W.length := by omega
          have hvd : Vk = W.foldl dropW V := by rw [HVK.out, hkw, List.take_length]
          have hres0 : RES = keepAll Vk (W.drop 0) := by rw [HRES.out, hvd]; rfl
          have HRES0 := Lib.hid hres0
          have HST := Lib.hid hst
          have hit49 : Vk.items.length ≤ 49 := by omega
          clear hkw hvd hres0 hst
          go_wp2
          go_loopw [48] (fun i wr => ∃ (k : Nat) (vk : Value) (Vk : Vol), k ≤ W.length ∧ i = .int .i64 k ∧ ApSt (w.heap.size + 2) w3.heap.size (w.heap.size + 1) g cap3 wr vk Vk ∧ Below w.heap.size w wr ∧ Vk.blocks.length = V.blocks.length ∧ Vk.items.length ≤ 49 ∧ RES = keepAll Vk (W.drop k)) (fun i _ => W.length - (intOf i).toNat)
          case atStart => exact ⟨0, vk, Vk, Nat.zero_le _, rfl, HST.out, hbel, HLK.out, hit49, HRES0.out⟩
          case round =>
            clear hlt hitk HVK HLK hit49 HRES0 HST hbel hk HVOK
            obtain ⟨q, vq, Vq, hq, rfl, hst, hbel, hlq, hitq, hrq⟩ := hrel
            have o0 := hst.o0
            have o1 := hst.o1
            rw [hlq] at o1
            have HLQ := Lib.hid hlq
            have HRQ := Lib.hid hrq
            have HST := Lib.hid hst
            clear hlq hrq
            by_cases hlt : q < W.length
            · clear o0 o1
              obtain ⟨x, hx⟩ : ∃ x, W[q]? = some x := ⟨W[q], List.getElem?_eq_getElem hlt⟩
              obtain ⟨bw, offw, rfl, hbw, c0, c1⟩ := HCW.out q x hx
              replace c0 := (hbel.cell (p := ⟨bw, _, none⟩) hbw).trans c0
              replace c1 := (hbel.cell (p := ⟨bw, _, none⟩) hbw).trans c1
              have hwx := wf_all HF.out hx
              obtain ⟨m, hm⟩ : ∃ m : Nat, x.block = (m : Int) := ⟨x.block.toNat, by omega⟩
              have hmt : x.block.toNat = m := by omega
              have hml : m < Vq.blocks.length := by rw [HLQ.out]; omega
              have HM2 := Lib.hid hmt
              rw [hm] at c0
              have hdr : W.drop q = x :: W.drop (q + 1) := by
                obtain ⟨h1, h2⟩ := List.getElem?_eq_some_iff.1 hx
                rw [List.drop_eq_getElem_cons h1, h2]
              have HDR := Lib.hid hdr
              clear hst hx hwx hmt hm hdr
              by_cases hd0 : 0 < x.data.size
              · obtain ⟨M, id, n, hkp⟩ : ∃ M id n, kept Vq.items x.data = (M, id, n) := ⟨_, _, _, rfl⟩
                by_cases hk0 : n = 0
                · subst hk0
                  have hkw : (keepW Vq x) = (⟨M, Vq.blocks.set m id⟩, 0) := by
                    unfold keepW; rw [if_pos hd0, hkp]; simp only; rw [if_pos trivial, HM2.out]
                  have hres : RES = keepAll ⟨M, Vq.blocks.set m id⟩ (W.drop (q + 1)) := by
                    rw [HRQ.out, HDR.out, keepAll_go (by rw [hkw]), hkw]
                  have hM49 : M.length ≤ 49 := by have := kept_len Vq.items x.data; rw [hkp] at this; exact this
                  have HRES2 := Lib.hid hres
                  have HKP := Lib.hid hkp
                  clear hkw hres hkp
                  go_wp2_with (go_at_call 60; refine (fill_ok _ _ _ g cap3 _ vq Vq (HST.out.past (below_alloc (Below.refl _ _) _)) (by omega) m hml x.data hd0 M id HKP.out).mono ?_; rintro e w5 ⟨rfl, v5, st5, hb5⟩; have HST5 := Lib.hid st5; clear st5)
                  go_roundw
                  case rel => exact ⟨q + 1, v5, _, by omega, by go_num, HST5.out, (below_alloc hbel _).trans (hb5.mono (by omega)), by simp [HLQ.out], hM49, HRES2.out⟩
                  case measure => simp [intOf]; omega
                · have hkw : (keepW Vq x).2 = n := by
                    unfold keepW; rw [if_pos hd0, hkp]; simp only; rw [if_neg hk0]
                  have hres : RES = (⟨[], []⟩, n) := by rw [HRQ.out, HDR.out, keepAll_stop (by rw [hkw]; exact hk0), hkw]
                  have HRES2 := Lib.hid hres
                  have HKP : Hid ((kept Vq.items x.data).2.2 = n) := (by rw [hkp] : (kept Vq.items x.data).2.2 = n)
                  have HK0 := Lib.hid hk0
                  have ht : (n != 0) = true := by simpa using hk0
                  clear hkw hres hk0 hkp
                  go_wp2_with (go_at_call 60; refine (fill_err _ _ _ g cap3 _ vq Vq (HST.out.past (below_alloc (Below.refl _ _) _)) (by omega) _ x.data hd0 n HKP.out HK0.out).mono ?_; rintro e w5 ⟨rfl, v5, st5, hb5⟩; have r0 := st5.r0; have r1 := st5.r1; have f0 := st5.f0; have f1 := st5.f1; have HB5 : Below w.heap.size w w5 := (below_alloc hbel _).trans (hb5.mono (by omega)); clear st5 hb5)
                  rw [HRES2.out]
                  exact bodyPost_ret (v := .tuple #[.agg #[.slice none 0 0, .slice none 0 0], .int .i64 n]) (by simp [results, Try.results38, go_sem, r0, r1]) rfl (RetVol.none (below_res HB5 _ _))
              · have hkw : keepW Vq x = (Vq, 0) := by unfold keepW; rw [if_neg hd0]
                have hres : RES = keepAll Vq (W.drop (q + 1)) := by rw [HRQ.out, HDR.out, keepAll_go (by rw [hkw]), hkw]
                have HRES2 := Lib.hid hres
                clear hkw hres
                go_wp2_with (go_at_call 60; refine (fill_none _ _ _ g cap3 _ vq Vq (HST.out.past (below_alloc (Below.refl _ _) _)) _ x.data hd0).mono ?_; rintro e w5 ⟨rfl, v5, st5, hb5⟩; have HST5 := Lib.hid st5; clear st5)
                go_roundw
                case rel => exact ⟨q + 1, v5, Vq, by omega, by go_num, HST5.out, (below_alloc hbel _).trans (hb5.mono (by omega)), HLQ.out, hitq, HRES2.out⟩
                case measure => simp [intOf]; omega
            · have hres : RES = (Vq, 0) := by rw [HRQ.out, show q = W.length by omega, List.drop_length]; rfl
              obtain ⟨pq, cq, rfl⟩ := hst.isSlice
              have r0 := hst.r0
              have r1 := hst.r1
              have f0 := hst.f0
              have f1 := hst.f1
              have HRES2 := Lib.hid hres
              clear hres hst
              go_wp2
              rw [HRES2.out]
              have hfin := HST.out.done rfl hbel (.slice pq Vq.items.length cq) (.slice (some ⟨g, 0, none⟩) V.blocks.length cap3)
              rw [HLQ.out] at hfin
              exact bodyPost_ret (v := .tuple #[.agg #[.slice pq Vq.items.length cq, .slice (some ⟨g, 0, none⟩) V.blocks.length cap3], .int .i64 0]) (by simp [results, Try.results38, go_sem, r0, r1]) rfl ⟨_, _, rfl, hfin⟩
    · have hr : applied V W = (⟨[], []⟩, wFault W V.blocks.length) := apply_bad hvk hf
      rw [hr]
      have ht2 : (wFault W V.blocks.length != 0) = true := by simpa using hf
      clear hr hf hm hlen hvk
      go_enter Try.func38, Try.ntmps38
      go_wp2_with (first
        | (go_at_call 56; refine (VCheck_any _ V _ (HV.out.keep hP0.box) HWZ.out).mono ?_; rw [HK.out]; rintro e w1 ⟨rfl, hb1⟩; have hP : Past22 w _ _ _ _ _ w1 := below_then hP0 hb1; obtain ⟨a0, a1, b0, b1⟩ := hP.cells; obtain ⟨g0, g1, hs⟩ := hP.frz)
        | (go_at_call 33; refine (VWrites_any _ W _ _ (HW.out.keep hP.box)).mono ?_; rintro e w2 ⟨rfl, hb2⟩; have hP2 := hP.next hb2; clear a0 a1 b0 b1 g0 g1 hs; obtain ⟨a0, a1, b0, b1⟩ := hP2.cells; obtain ⟨g0, g1, hs⟩ := hP2.frz))
      exact bodyPost_ret (v := .tuple #[.agg #[.slice none 0 0, .slice none 0 0], .int .i64 (wFault W V.blocks.length)]) (by simp [results, Try.results38, go_sem, b0, b1]) rfl (RetVol.none (below_res hP2.box _ _))
end Go.Proofs.Ythjaanhkmfiajac
