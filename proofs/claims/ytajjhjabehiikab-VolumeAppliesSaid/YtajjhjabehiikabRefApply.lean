/- The document's AppliedOf: what it returns. Condition: the volume's size. -/
import Derived.Test.YtajjhjabehiikabApSt
import Derived.Test.YtajjhjabehiikabRefVolMay
import Derived.Test.YtajjhjabehiikabRefVolCopy
import Derived.Test.YtajjhjabehiikabRefWrites
import Derived.Test.YtajjhjabehiikabRefKept
import Derived.Deep.RegionWith
namespace Go.Proofs.Ytajjhjabehiikab
open Go.RowKit

set_option maxRecDepth 100000 in
set_option maxHeartbeats 8000000 in
theorem AppliedOf_any (v u : Value) (V : Vol) (W : List Wr) (w : World) (h : VolAt w v V) (hw : WritesAt w u W) :
    Calls Try.prog 9 #[v, u] w (RetVol (applied V W).1 (applied V W).2 w) := by
  have h' := h
  obtain ⟨vi, vb, rfl, hI, hZ⟩ := h'
  obtain ⟨pi, ci, rfl, hli, _⟩ := hI
  obtain ⟨pz, cz, rfl, hlz, _⟩ := hZ
  have HV := Lib.hid h
  have HW := Lib.hid hw
  have hw' := hw
  obtain ⟨pw, cw, rfl, hlw, _, hcw⟩ := hw'
  have HCW := Lib.hid hcw
  clear h hw hcw
  have hP0 := Past22.start w (.slice pi V.items.length ci) (.slice pz V.blocks.length cz) (.slice none 0 0) (.slice none 0 0) 25
  cases hm : volB V with
  | false =>
    have hr : applied V W = (⟨[], []⟩, 7) := by unfold applied; rw [if_pos hm]
    rw [hr]
    have HM := Lib.hid hm
    clear hr hm
    go_enter Try.func9, Try.ntmps9
    go_wp2_with (go_at_call 23; refine (VolumeMay_any _ V _ (HV.out.keep hP0.box)).mono ?_; rw [HM.out]; rintro e w1 ⟨rfl, hb1⟩; have hP : Past22 w _ _ _ _ _ w1 := below_then hP0 hb1; obtain ⟨a0, a1, b0, b1⟩ := hP.cells; obtain ⟨g0, g1, hs⟩ := hP.frz)
    exact bodyPost_ret (v := .tuple #[.agg #[.slice none 0 0, .slice none 0 0], .int .i64 7]) (by simp [results, Try.results9, go_sem, b0, b1]) rfl (RetVol.none (below_res hP.box _ _))
  | true =>
    have HM := Lib.hid hm
    have hlen := (volB_iff.1 hm).len
    have hl1 := hlen.1
    have hl2 := hlen.2
    have hmay := may_len (volB_iff.1 hm).may
    have ht : IntKind.i64.wrap ((V.blocks.length : Int) - 1) = (V.blocks.length : Int) - 1 := IntWalk.i64_in _ (by omega)
    have HT := Lib.hid ht
    have hplus : (V.blocks.length : Int) - 1 + 1 = (V.blocks.length : Int) := by omega
    have HPL := Lib.hid hplus
    clear hplus
    by_cases hf : wFault W V.blocks.length = 0
    · rw [applied_ok hm hf]
      obtain ⟨RES, hRES⟩ : ∃ RES, RES = keepAll (W.foldl dropW V) W := ⟨_, rfl⟩
      rw [← hRES]
      have HRES := Lib.hid hRES
      clear hRES
      have HF := Lib.hid hf
      clear hf hm hlen
      go_enter Try.func9, Try.ntmps9
      go_wp2_with (first
        | (go_at_call 23; refine (VolumeMay_any _ V _ (HV.out.keep hP0.box)).mono ?_; rw [HM.out]; rintro e w1 ⟨rfl, hb1⟩; have hP : Past22 w _ _ _ _ _ w1 := below_then hP0 hb1; obtain ⟨a0, a1, b0, b1⟩ := hP.cells; obtain ⟨g0, g1, hs⟩ := hP.frz)
        | (go_at_call 24; refine (WritesFault_any _ W _ _ HT.out _ (HW.out.keep hP.box)).mono ?_; rw [HPL.out, HF.out]; rintro e w2 ⟨rfl, hb2⟩; have hP2 := hP.next hb2; clear a0 a1 b0 b1 g0 g1 hs; obtain ⟨a0, a1, b0, b1⟩ := hP2.cells; obtain ⟨g0, g1, hs⟩ := hP2.frz)
        | (go_at_call 7; refine (VolumeCopy_any _ V _ (HV.out.keep hP2.box) (by omega) (by omega)).mono ?_; rintro e w3 ⟨vi3, vb3, rfl, hown3⟩; obtain ⟨g, cap3, rfl, hg1, hg2, hg3⟩ := hown3.2.1.shape (by omega); obtain ⟨p3, c3, rfl⟩ : ∃ p c, vi3 = .slice p V.items.length c := (by rcases hown3.1.1.2 with ⟨rfl, hn⟩ | ⟨_, cap, _, rfl, _⟩; exact ⟨none, 0, by rw [hn]⟩; exact ⟨_, cap, rfl⟩); have hst0 := ApSt.start hP2 rfl hown3; have hbel0 : Below w.heap.size w _ := below_alloc (below_then hP2.box hown3.below) (.cells #[.slice p3 V.items.length c3, .slice (some ⟨g, 0, none⟩) V.blocks.length cap3] 25)))
      clear hown3 hb2 hb1 hP hP2 hP0 hg1 hg2 a0 a1 b0 b1 g0 g1 hs
      go_loopw [8, 9] (fun i _ wr => ∃ (k : Nat) (vk : Value), k ≤ W.length ∧ i = .int .i64 k ∧ ApSt (w.heap.size + 2) w3.heap.size (w.heap.size + 1) g cap3 wr vk ((W.take k).foldl dropW V) ∧ Below w.heap.size w wr) (fun i _ _ => W.length - (intOf i).toNat)
      case atStart => exact ⟨0, _, Nat.zero_le _, rfl, hst0, hbel0⟩
      case round =>
        clear hst0 hbel0
        obtain ⟨k, vk, hk, rfl, hst, hbel⟩ := hrel
        obtain ⟨Vk, hVk⟩ : ∃ Vk, Vk = (W.take k).foldl dropW V := ⟨_, rfl⟩
        rw [← hVk] at hst
        have hlenk : Vk.blocks.length = V.blocks.length := by rw [hVk]; exact dropAll_len _ _
        have hitk : Vk.items.length ≤ 24 := by rw [hVk]; exact Nat.le_trans (dropAll_le _ _) hmay
        have HVK := Lib.hid hVk
        have HLK := Lib.hid hlenk
        clear hVk
        have o0 := hst.o0
        have o1 := hst.o1
        have fo := hst.fo
        rw [hlenk] at o1
        clear hlenk
        by_cases hlt : k < W.length
        · obtain ⟨x, hx⟩ : ∃ x, W[k]? = some x := ⟨W[k], List.getElem?_eq_getElem hlt⟩
          obtain ⟨bw, offw, rfl, hbw, c0, _⟩ := HCW.out k x hx
          replace c0 := (hbel.cell (p := ⟨bw, _, none⟩) hbw).trans c0
          have hwx := wf_all HF.out hx
          obtain ⟨m, hm⟩ : ∃ m : Nat, x.block = (m : Int) := ⟨x.block.toNat, by omega⟩
          have hmt : x.block.toNat = m := by omega
          have hml : m < V.blocks.length := by omega
          obtain ⟨z, hz⟩ : ∃ z, Vk.blocks[m]? = some z := ⟨Vk.blocks[m]'(by rw [HLK.out]; exact hml), List.getElem?_eq_getElem (by rw [HLK.out]; exact hml)⟩
          obtain ⟨d0, fz⟩ := hst.block hz
          rw [hm] at c0
          have hfs := fold_snoc hx V
          rw [← HVK.out] at hfs
          have HFS := Lib.hid hfs
          have hmt' : Vk.blocks[x.block.toNat]? = some z := by rw [hmt]; exact hz
          have HMT := Lib.hid hmt'
          have HST := Lib.hid hst
          have HM2 := Lib.hid hmt
          have HZ := Lib.hid hz
          clear hx hwx hfs hmt' hst hmt hm hz
          by_cases h0 : 0 ≤ z
          · have hd : decide (0 ≤ z) = true := by simpa using h0
            go_wp2
            go_region_with (go_at_call 25; refine (DroppedOf_any _ Vk.items z _ (HST.out.drew.items (by omega))).mono ?_; rintro e w5 ⟨v5, rfl, hown5⟩; obtain ⟨p5, c5, rfl⟩ := hown5.isSlice; have st5 := HST.out.drew.past hown5.below; have p0 := st5.o0; have p1 := st5.o1; rw [HLK.out] at p1; have pf := st5.fo; obtain ⟨pb, pbf⟩ := st5.block HZ.out; have hgO := st5.hgO; have hgO1 : ¬ g = w3.heap.size := (by omega); have hgO2 : ¬ w3.heap.size = g := (by omega); have HOWN5 := Lib.hid hown5; clear hown5 st5 hgO)
            all_goals
              go_wp2
              go_roundw
              case rel =>
                refine ⟨k + 1, .slice p5 (dropped Vk.items z).1.length c5, by omega, by go_num, ?_, ?_⟩
                · rw [HFS.out, dropW_some HMT.out h0, HM2.out]
                  exact HST.out.drew.step HOWN5.out (by rw [HLK.out]; exact hml) (-1)
                · have hsz := HST.out.hO
                  have hgB := HST.out.hg
                  exact ((below_then hbel.drew HOWN5.out.below).setCell (p := ⟨w3.heap.size, 0, none⟩) (by show w.heap.size ≤ w3.heap.size; have := HST.out.hgO; omega) _).setCell (p := ⟨g, m, none⟩) (by show w.heap.size ≤ g; omega) _
              case measure => simp [intOf]; omega
          · have hd : decide (0 ≤ z) = false := by simpa using h0
            go_wp2
            go_roundw
            case rel => exact ⟨k + 1, _, by omega, by go_num, by rw [HFS.out, dropW_none HMT.out h0]; exact HST.out, hbel⟩
            case measure => simp [intOf]; omega
        · have hkw : k = W.length := by omega
          have hvd : Vk = W.foldl dropW V := by rw [HVK.out, hkw, List.take_length]
          have hres0 : RES = keepAll Vk (W.drop 0) := by rw [HRES.out, hvd]; rfl
          have HRES0 := Lib.hid hres0
          have HST := Lib.hid hst
          have hit49 : Vk.items.length ≤ 49 := by omega
          clear hkw hvd hres0 hst o0 o1 fo
          go_wp2
          go_loopw [10, 11, 12, 13] (fun i _ _ _ wr => ∃ (k : Nat) (vk : Value) (Vk : Vol), k ≤ W.length ∧ i = .int .i64 k ∧ ApSt (w.heap.size + 2) w3.heap.size (w.heap.size + 1) g cap3 wr vk Vk ∧ Below w.heap.size w wr ∧ Vk.blocks.length = V.blocks.length ∧ Vk.items.length ≤ 49 ∧ RES = keepAll Vk (W.drop k)) (fun i _ _ _ _ => W.length - (intOf i).toNat)
          case atStart => exact ⟨0, vk, Vk, Nat.zero_le _, rfl, HST.out, hbel, HLK.out, hit49, HRES0.out⟩
          case round =>
            clear hlt hitk HVK HLK hit49 HRES0 HST hbel hk
            obtain ⟨q, vq, Vq, hq, rfl, hst, hbel, hlq, hitq, hrq⟩ := hrel
            have o0 := hst.o0
            have o1 := hst.o1
            have fo := hst.fo
            rw [hlq] at o1
            have HLQ := Lib.hid hlq
            have HRQ := Lib.hid hrq
            have HST := Lib.hid hst
            clear hlq hrq
            by_cases hlt : q < W.length
            · obtain ⟨x, hx⟩ : ∃ x, W[q]? = some x := ⟨W[q], List.getElem?_eq_getElem hlt⟩
              obtain ⟨bw, offw, rfl, hbw, c0, c1⟩ := HCW.out q x hx
              have C0 := Lib.hid c0
              replace c0 := (hbel.cell (p := ⟨bw, _, none⟩) hbw).trans c0
              replace c1 := (hbel.cell (p := ⟨bw, _, none⟩) hbw).trans c1
              have hwx := wf_all HF.out hx
              obtain ⟨m, hm⟩ : ∃ m : Nat, x.block = (m : Int) := ⟨x.block.toNat, by omega⟩
              have hmt : x.block.toNat = m := by omega
              have hml : m < V.blocks.length := by omega
              have HM2 := Lib.hid hmt
              have HMB := Lib.hid hm
              rw [hm] at c0
              have hdr : W.drop q = x :: W.drop (q + 1) := by
                obtain ⟨h1, h2⟩ := List.getElem?_eq_some_iff.1 hx
                rw [List.drop_eq_getElem_cons h1, h2]
              have HDR := Lib.hid hdr
              have hbwO1 : ¬ w3.heap.size = bw := by have := hst.hgO; have := hst.hg; omega
              have hbwO2 : ¬ bw = w3.heap.size := by omega
              clear hst hx hwx hmt hm hdr
              by_cases hd0 : 0 < x.data.size
              · have HD0 : Hid (0 < x.data.size) := hd0
                by_cases hk0 : (kept Vq.items x.data).2.2 = 0
                · have hkw : (keepW Vq x) = (⟨(kept Vq.items x.data).1, Vq.blocks.set m (kept Vq.items x.data).2.1⟩, 0) := by
                    unfold keepW; rw [if_pos hd0, if_pos hk0, HM2.out]
                  have hres : RES = keepAll ⟨(kept Vq.items x.data).1, Vq.blocks.set m (kept Vq.items x.data).2.1⟩ (W.drop (q + 1)) := by
                    rw [HRQ.out, HDR.out, keepAll_go (by rw [hkw]), hkw]
                  have HRES2 := Lib.hid hres
                  have HK0 := Lib.hid hk0
                  clear hkw hres hk0
                  obtain ⟨z, hz⟩ : ∃ z, Vq.blocks[m]? = some z := ⟨Vq.blocks[m]'(by rw [HLQ.out]; exact hml), List.getElem?_eq_getElem (by rw [HLQ.out]; exact hml)⟩
                  have HZ := Lib.hid hz
                  clear hz
                  go_wp2
                  go_region_with (go_at_call 26; refine (KeptOf_any _ Vq.items x.data _ (HST.out.drew.items (by omega))).mono ?_; rintro e w5 ⟨v5, rfl, hown5⟩; rw [HK0.out]; obtain ⟨p5, c5, rfl⟩ := hown5.isSlice; have st5 := HST.out.drew.past hown5.below; have p0 := st5.o0; have p1 := st5.o1; rw [HLQ.out] at p1; have pf := st5.fo; obtain ⟨pb, pbf⟩ := st5.block HZ.out; have hgO := st5.hgO; have hgO1 : ¬ g = w3.heap.size := (by omega); have hgO2 : ¬ w3.heap.size = g := (by omega); have e0 := ((below_then hbel.drew hown5.below).cell (p := ⟨bw, _, none⟩) hbw).trans C0.out; rw [HMB.out] at e0; have HOWN5 := Lib.hid hown5; clear hown5 st5 hgO)
                  all_goals
                    go_wp2
                    go_region
                  all_goals
                    go_wp2
                    go_roundw
                    case rel =>
                      refine ⟨q + 1, .slice p5 (kept Vq.items x.data).1.length c5, ⟨(kept Vq.items x.data).1, Vq.blocks.set m (kept Vq.items x.data).2.1⟩, by omega, by go_num, ?_, ?_, by simp [HLQ.out], kept_len _ _, HRES2.out⟩
                      · exact (HST.out.drew.step HOWN5.out (by rw [HLQ.out]; exact hml) _).drew
                      · have hsz := HST.out.hO
                        have hgB := HST.out.hg
                        exact (((below_then hbel.drew HOWN5.out.below).setCell (p := ⟨w3.heap.size, 0, none⟩) (by show w.heap.size ≤ w3.heap.size; have := HST.out.hgO; omega) _).setCell (p := ⟨g, m, none⟩) (by show w.heap.size ≤ g; omega) _).drew
                    case measure => simp [intOf]; omega
                · have hkw : (keepW Vq x).2 = (kept Vq.items x.data).2.2 := by
                    unfold keepW; rw [if_pos hd0, if_neg hk0]
                  have hres : RES = (⟨[], []⟩, (kept Vq.items x.data).2.2) := by rw [HRQ.out, HDR.out, keepAll_stop (by rw [hkw]; exact hk0), hkw]
                  have HRES2 := Lib.hid hres
                  have ht : ((kept Vq.items x.data).2.2 != 0) = true := by simpa using hk0
                  clear hkw hres hk0
                  go_wp2
                  go_region_with (go_at_call 26; refine (KeptOf_any _ Vq.items x.data _ (HST.out.drew.items (by omega))).mono ?_; rintro e w5 ⟨v5, rfl, hown5⟩; obtain ⟨p5, c5, rfl⟩ := hown5.isSlice; have st5 := HST.out.drew.past hown5.below; have r0 := st5.r0; have r1 := st5.r1; have f0 := st5.f0; have f1 := st5.f1; have hb5 := below_then hbel.drew hown5.below; clear st5 hown5)
                  all_goals
                    go_wp2
                    rw [HRES2.out]
                    exact bodyPost_ret (v := .tuple #[.agg #[.slice none 0 0, .slice none 0 0], .int .i64 (kept Vq.items x.data).2.2]) (by simp [results, Try.results9, go_sem, r0, r1]) rfl (RetVol.none (below_res hb5 _ _))
              · have hkw : keepW Vq x = (Vq, 0) := by unfold keepW; rw [if_neg hd0]
                have hres : RES = keepAll Vq (W.drop (q + 1)) := by rw [HRQ.out, HDR.out, keepAll_go (by rw [hkw]), hkw]
                have HRES2 := Lib.hid hres
                clear hkw hres
                go_wp2
                go_roundw
                case rel => exact ⟨q + 1, vq, Vq, by omega, by go_num, HST.out, hbel, HLQ.out, hitq, HRES2.out⟩
                case measure => simp [intOf]; omega
            · have hres : RES = (Vq, 0) := by rw [HRQ.out, show q = W.length by omega, List.drop_length]; rfl
              obtain ⟨pq, cq, rfl⟩ := hst.isSlice
              have r0 := hst.r0
              have r1 := hst.r1
              have f0 := hst.f0
              have f1 := hst.f1
              have HRES2 := Lib.hid hres
              clear hres hst
              go_wp2
              rw [HRES2.out]
              have hfin := HST.out.done rfl hbel (.slice pq Vq.items.length cq) (.slice (some ⟨g, 0, none⟩) V.blocks.length cap3)
              rw [HLQ.out] at hfin
              exact bodyPost_ret (v := .tuple #[.agg #[.slice pq Vq.items.length cq, .slice (some ⟨g, 0, none⟩) V.blocks.length cap3], .int .i64 0]) (by simp [results, Try.results9, go_sem, r0, r1]) rfl ⟨_, _, rfl, hfin⟩
    · have hr : applied V W = (⟨[], []⟩, wFault W V.blocks.length) := apply_bad (volB_iff.1 hm) hf
      rw [hr]
      have ht2 : (wFault W V.blocks.length != 0) = true := by simpa using hf
      clear hr hf hm hlen
      go_enter Try.func9, Try.ntmps9
      go_wp2_with (first
        | (go_at_call 23; refine (VolumeMay_any _ V _ (HV.out.keep hP0.box)).mono ?_; rw [HM.out]; rintro e w1 ⟨rfl, hb1⟩; have hP : Past22 w _ _ _ _ _ w1 := below_then hP0 hb1; obtain ⟨a0, a1, b0, b1⟩ := hP.cells; obtain ⟨g0, g1, hs⟩ := hP.frz)
        | (go_at_call 24; refine (WritesFault_any _ W _ _ HT.out _ (HW.out.keep hP.box)).mono ?_; rw [HPL.out]; rintro e w2 ⟨rfl, hb2⟩; have hP2 := hP.next hb2; clear a0 a1 b0 b1 g0 g1 hs; obtain ⟨a0, a1, b0, b1⟩ := hP2.cells; obtain ⟨g0, g1, hs⟩ := hP2.frz))
      exact bodyPost_ret (v := .tuple #[.agg #[.slice none 0 0, .slice none 0 0], .int .i64 (wFault W V.blocks.length)]) (by simp [results, Try.results9, go_sem, b0, b1]) rfl (RetVol.none (below_res hP2.box _ _))
end Go.Proofs.Ytajjhjabehiikab
