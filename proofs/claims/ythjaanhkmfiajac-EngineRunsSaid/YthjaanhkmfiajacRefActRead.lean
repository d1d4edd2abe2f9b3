/- The document's ActedOf: one action. Conditions: the house is sound, the action's numbers are ints. -/
import Derived.Test.YthjaanhkmfiajacRefHouses
namespace Go.Proofs.Ythjaanhkmfiajac
open Go.RowKit LM EM

set_option maxRecDepth 100000 in
set_option maxHeartbeats 4000000 in
theorem Acted_Read (n : Nat) (hv : Value) (s : EM.St) (a : EM.Act) (w : World) (h : HouseV w hv s) (hI : EM.Inv n s) (hok : ActOk a) (hkd : a.kind = 3) :
    Calls Try.prog 12 #[hv, .agg #[.int .i64 a.kind, .int .i64 a.block, .string a.data, .int .i64 a.keep]] w (ActedRet s a w) := by
  obtain ⟨bi, bb, dv, lv, rfl, hty, hdl, hwr⟩ := h
  obtain ⟨pa, ca, pb, cb, rfl, rfl⟩ := hty.slices
  obtain ⟨pd, cd, rfl, hdc, hd47⟩ := hdl.slice
  obtain ⟨pl, cl, rfl⟩ := hwr.slice
  have hnw := hI.now
  obtain ⟨G0, hG0⟩ : ∃ G, G = w.heap.size := ⟨_, rfl⟩
  obtain ⟨G1, hG1⟩ : ∃ G, G = w.heap.size + 1 := ⟨_, rfl⟩
  obtain ⟨G2, hG2⟩ : ∃ G, G = w.heap.size + 1 + 1 := ⟨_, rfl⟩
  obtain ⟨G3, hG3⟩ : ∃ G, G = w.heap.size + 1 + 1 + 1 := ⟨_, rfl⟩
  obtain ⟨G4, hG4⟩ : ∃ G, G = w.heap.size + 1 + 1 + 1 + 1 := ⟨_, rfl⟩
  obtain ⟨W5, hW5⟩ : ∃ W, W = boxes w (.slice pa s.base.items.length ca) (.slice pb s.base.blocks.length cb) (.slice pd s.deals.length cd) (.int .i64 (s.last : Int)) (.bool s.op) (.slice pl s.l.length cl) (.int .i64 a.kind) (.int .i64 a.block) (.string a.data) (.int .i64 a.keep) := ⟨_, rfl⟩
  obtain ⟨r0, r1, r2, r3, r4, hs5, hb5⟩ := boxes_at hW5
  rw [← hG0] at r0
  rw [← hG1] at r1
  rw [← hG2] at r2
  rw [← hG3] at r3
  rw [← hG4] at r4
  have HKD := Lib.hid hkd
  have HG0 := Lib.hid hG0.symm
  have HG1 := Lib.hid hG1.symm
  have HG2 := Lib.hid hG2.symm
  have HG3 := Lib.hid hG3.symm
  have HG4 := Lib.hid hG4.symm
  have HW5 := Lib.hid hW5.symm
  have HR0 := Lib.hid r0
  have HR1 := Lib.hid r1
  have HR2 := Lib.hid r2
  have HR3 := Lib.hid r3
  have HR4 := Lib.hid r4
  have HB5 := Lib.hid hb5
  have HTY := Lib.hid (hty.keep hb5)
  have HDL := Lib.hid (hdl.bx (.of_below hb5))
  have HWR := Lib.hid (hwr.bx (.of_below hb5))
  have HI := Lib.hid hI
  have HNW := Lib.hid hnw
  have HOK := Lib.hid hok
  have HS5 := Lib.hid hs5
  have hH0 := r0.cell 0
  have hH1 := r0.cell 1
  have hH2 := r0.cell 2
  have hH3 := r0.cell 3
  have hH4 := r0.cell 4
  have hH5 := r0.cell 5
  simp only [List.getElem?_toArray, List.getElem?_cons_zero, List.getElem?_cons_succ] at hH0 hH1 hH2 hH3 hH4 hH5
  clear hty hdl hwr hnw hI hok hkd hW5 hG0 hG1 hG2 hG3 hG4 hs5 hb5 r0 r1 r2 r3 r4
  go_enter Try.func12, Try.ntmps12
  go_upto_region 2 with (fail)
  change Code.wp _ _ _ _ (boxes w (.slice pa s.base.items.length ca) (.slice pb s.base.blocks.length cb) (.slice pd s.deals.length cd) (.int .i64 (s.last : Int)) (.bool s.op) (.slice pl s.l.length cl) (.int .i64 a.kind) (.int .i64 a.block) (.string a.data) (.int .i64 a.keep))
  rw [HW5.out, HG4.out, HG3.out, HG2.out, HG1.out, HG0.out]
  go_upto_region 3 with (go_at_call 14; refine (Now_any _ s _ ⟨_, _, _, _, rfl, HTY.out, HDL.out, HWR.out⟩ HI.out.base HI.out.each).mono ?_; rintro e w6 ⟨x6, y6, rfl, hty6, hb6⟩; obtain ⟨px, cx, py, cy, rfl, rfl⟩ := hty6.slices)
  obtain ⟨G7, hG7⟩ : ∃ G, G = w6.heap.size := ⟨_, rfl⟩
  obtain ⟨W7, hW7⟩ : ∃ W, W = w6.alloc (.cells #[.slice px s.now.items.length cx, .slice py s.now.blocks.length cy] 27) := ⟨_, rfl⟩
  rw [← hW7, ← hG7]
  have hal : Below w6.heap.size w6 W7 := by rw [hW7]; exact below_alloc (Below.refl _ _) _
  have hb57 : Below W5.heap.size W5 W7 := below_then hb6 hal
  have hnb : VBox W7 G7 (.slice px s.now.items.length cx) (.slice py s.now.blocks.length cy) := by rw [hW7, hG7]; exact VBox.new _ _ _
  have hnt : VolTy W7 (.slice px s.now.items.length cx) (.slice py s.now.blocks.length cy) s.now := hty6.keep hal
  have hGN : G4 < G7 := by rw [hG7, ← HG4.out]; have := hb6.size; have := HS5.out; omega
  have hGs : w.heap.size ≤ G0 ∧ w.heap.size ≤ G1 ∧ w.heap.size ≤ G2 ∧ w.heap.size ≤ G3 ∧ w.heap.size ≤ G4 ∧ G0 < G1 ∧ G1 < G2 ∧ G2 < G3 ∧ G3 < G4 := by have := HG0.out; have := HG1.out; have := HG2.out; have := HG3.out; have := HG4.out; omega
  have htr := Trk.first HB5.out hb57 ⟨hGs.1, hGs.2.1, hGs.2.2.1, hGs.2.2.2.1, hGs.2.2.2.2.1⟩ HR0.out HR1.out HR2.out HR3.out HR4.out
  obtain ⟨q0, q1, q2, q3, q4⟩ : RowAt W7 G0 _ _ ∧ RowAt W7 G1 _ _ ∧ RowAt W7 G2 _ _ ∧ RowAt W7 G3 _ _ ∧ RowAt W7 G4 _ _ := ⟨HR0.out.past hb57, HR1.out.past hb57, HR2.out.past hb57, HR3.out.past hb57, HR4.out.past hb57⟩
  have HTR := Lib.hid htr
  have HP2 := Lib.hid q2
  have HP3 := Lib.hid q3
  have HNT := Lib.hid hnt
  have HTY7 := Lib.hid (HTY.out.keep hb57)
  have HDL7 := Lib.hid (HDL.out.bx (.of_below hb57))
  have HWR7 := Lib.hid (HWR.out.bx (.of_below hb57))
  clear hH0 hH1 hH2 hH3 hH4 hH5
  have m01 : ¬ G0 = G1 := by omega
  have m02 : ¬ G0 = G2 := by omega
  have m03 : ¬ G0 = G3 := by omega
  have m04 : ¬ G0 = G4 := by omega
  have m07 : ¬ G0 = G7 := by omega
  have m10 : ¬ G1 = G0 := by omega
  have m12 : ¬ G1 = G2 := by omega
  have m13 : ¬ G1 = G3 := by omega
  have m14 : ¬ G1 = G4 := by omega
  have m17 : ¬ G1 = G7 := by omega
  have m20 : ¬ G2 = G0 := by omega
  have m21 : ¬ G2 = G1 := by omega
  have m23 : ¬ G2 = G3 := by omega
  have m24 : ¬ G2 = G4 := by omega
  have m27 : ¬ G2 = G7 := by omega
  have m30 : ¬ G3 = G0 := by omega
  have m31 : ¬ G3 = G1 := by omega
  have m32 : ¬ G3 = G2 := by omega
  have m34 : ¬ G3 = G4 := by omega
  have m37 : ¬ G3 = G7 := by omega
  have m40 : ¬ G4 = G0 := by omega
  have m41 : ¬ G4 = G1 := by omega
  have m42 : ¬ G4 = G2 := by omega
  have m43 : ¬ G4 = G3 := by omega
  have m47 : ¬ G4 = G7 := by omega
  have m70 : ¬ G7 = G0 := by omega
  have m71 : ¬ G7 = G1 := by omega
  have m72 : ¬ G7 = G2 := by omega
  have m73 : ¬ G7 = G3 := by omega
  have m74 : ¬ G7 = G4 := by omega
  have Q0 := Lib.hid q0
  have Q1 := Lib.hid q1
  have Q4 := Lib.hid q4
  have Q7 := Lib.hid (show RowAt W7 G7 27 #[.slice px s.now.items.length cx, .slice py s.now.blocks.length cy] from hnb)
  obtain ⟨⟨hH0, hH1, hH2, hH3, hH4, hH5⟩, ⟨hA0, hA1, hA2, hA3⟩, ⟨hP0, hP1, hP2, hP3, hP4, hP5⟩, ⟨hQ0, hQ1, hQ2, hQ3, hQ4⟩, ⟨hO0, hO1, hO2, hO3, hO4⟩, ⟨n0, n1⟩, hfH, hfP, hfQ, hfO⟩ := box_facts q0 q1 q2 q3 q4 Q7.out
  clear hal hb57 hnb hty6 hb6 hW7 hG7 htr hnt q0 q1 q2 q3 q4 HR0 HR1 HR2 HR3 HR4 HB5 HTY HDL HWR HS5 HW5 HG0 HG1 HG2 HG3 HG4 hGs hGN
  rw [HKD.out] at hA0
  have hst := step_read3 (s := s) HKD.out
  have hup := HI.out.l.up
  have hl12 := HI.out.l.len
  have hrd := ReadOf_any _ s.now a.block HOK.out.block W7 HNT.out.at
  obtain ⟨rr, hrr⟩ : ∃ rr, rr = readOf s.now a.block := ⟨_, rfl⟩
  rw [← hrr] at hrd hst
  obtain ⟨L, hL⟩ : ∃ L, L = s.l := ⟨_, rfl⟩
  rw [← hL] at hst hup hl12 hH5 ⊢
  have HRD := Lib.hid hrd
  have HST := Lib.hid hst
  have HUP := Lib.hid hup
  have hwl := HWR7
  rw [← hL] at hwl
  have hq0 := Q0.out
  rw [← hL] at hq0
  have Q0L := Lib.hid hq0
  clear Q0
  have Q0 := Q0L
  have HLL := Lib.hid hL
  clear hst hup hrd hrr hL hq0 Q0L
  go_wp2_with (go_at_call 28; refine HRD.out.mono ?_; rintro e w8 ⟨rfl, hb8⟩; have k0 : RowAt w8 G0 47 #[.slice pa s.base.items.length ca, .slice pb s.base.blocks.length cb, .slice pd s.deals.length cd, .int .i64 (s.last : Int), .bool s.op, .slice pl L.length cl] := RowAt.past (by repeat (first | with_reducible exact Q0.out | (with_reducible refine RowAt.far ?_ (by assumption)) | with_reducible refine RowAt.alloc ?_ _)) hb8; have k1 : RowAt w8 G1 41 #[.int .i64 a.kind, .int .i64 a.block, .string a.data, .int .i64 a.keep] := RowAt.past (by repeat (first | with_reducible exact Q1.out | (with_reducible refine RowAt.far ?_ (by assumption)) | with_reducible refine RowAt.alloc ?_ _)) hb8; have k2 : RowAt w8 G2 47 #[.slice none 0 0, .slice none 0 0, .slice none 0 0, .int .i64 0, .bool false, .slice none 0 0] := RowAt.past (by repeat (first | with_reducible exact HP2.out | (with_reducible refine RowAt.far ?_ (by assumption)) | with_reducible refine RowAt.alloc ?_ _)) hb8; have k3 : RowAt w8 G3 43 #[.int .i64 0, .string ⟨#[]⟩, .int .i64 0, .int .i64 0, .int .i64 0] := RowAt.past (by repeat (first | with_reducible exact HP3.out | (with_reducible refine RowAt.far ?_ (by assumption)) | with_reducible refine RowAt.alloc ?_ _)) hb8; have k4 : RowAt w8 G4 43 #[.int .i64 0, .string ⟨#[]⟩, .int .i64 0, .int .i64 0, .int .i64 0] := RowAt.past (by repeat (first | with_reducible exact Q4.out | (with_reducible refine RowAt.far ?_ (by assumption)) | with_reducible refine RowAt.alloc ?_ _)) hb8; have k7 : RowAt w8 G7 27 #[.slice px s.now.items.length cx, .slice py s.now.blocks.length cy] := RowAt.past (by repeat (first | with_reducible exact Q7.out | (with_reducible refine RowAt.far ?_ (by assumption)) | with_reducible refine RowAt.alloc ?_ _)) hb8; have HTR8 := Lib.hid (show Trk w.heap.size w W7 [G0, G1, G2, G3, G4] w8 from Trk.past (by repeat (first | with_reducible exact HTR.out | with_reducible refine Trk.drew ?_ | with_reducible refine Trk.alloc ?_ _ | with_reducible refine Trk.set ?_ (by simp) _ _)) hb8); obtain ⟨⟨hH0, hH1, hH2, hH3, hH4, hH5⟩, ⟨hA0, hA1, hA2, hA3⟩, ⟨hP0, hP1, hP2, hP3, hP4, hP5⟩, ⟨hQ0, hQ1, hQ2, hQ3, hQ4⟩, ⟨hO0, hO1, hO2, hO3, hO4⟩, ⟨n0, n1⟩, hfH, hfP, hfQ, hfO⟩ := box_facts k0 k1 k2 k3 k4 k7; have HK0 := Lib.hid k0; have HK1 := Lib.hid k1; have HK2 := Lib.hid k2; have HK3 := Lib.hid k3; have HK4 := Lib.hid k4; have HK7 := Lib.hid k7; clear k0 k1 k2 k3 k4 k7; clear HTR HP2 HP3 Q0 Q1 Q4 Q7; have HTR := HTR8; have Q0 := HK0; have Q1 := HK1; have HP2 := HK2; have HP3 := HK3; have Q4 := HK4; have Q7 := HK7; clear HTR8 HK0 HK1 HK2 HK3 HK4 HK7; have HTN0 := Lib.hid (show Trk w.heap.size w w8 [G0, G1, G2, G3, G4] w8 from ⟨Bx.refl _, HTR.out.2⟩); (try clear HTN); have HTN := HTN0; clear HTN0)
  go_loopw [9] (fun i wr => ∃ k : Nat, k ≤ L.length ∧ i = .int .i64 (k : Int) ∧ Hid (∃ d, d = datL (L.take k) a.block rr.1 ∧ RowAt wr G0 47 #[.slice pa s.base.items.length ca, .slice pb s.base.blocks.length cb, .slice pd s.deals.length cd, .int .i64 (s.last : Int), .bool s.op, .slice pl L.length cl] ∧ RowAt wr G1 41 #[.int .i64 a.kind, .int .i64 a.block, .string a.data, .int .i64 a.keep] ∧ RowAt wr G2 47 #[.slice none 0 0, .slice none 0 0, .slice none 0 0, .int .i64 0, .bool false, .slice none 0 0] ∧ RowAt wr G3 43 #[.int .i64 0, .string ⟨#[]⟩, .int .i64 0, .int .i64 0, .int .i64 0] ∧ RowAt wr G4 43 #[.int .i64 rr.2, .string d, .int .i64 0, .int .i64 0, .int .i64 0] ∧ RowAt wr G7 27 #[.slice px s.now.items.length cx, .slice py s.now.blocks.length cy] ∧ Trk w.heap.size w W7 [G0, G1, G2, G3, G4] wr)) (fun i _ => L.length - (intOf i).toNat)
  case atStart => exact ⟨0, Nat.zero_le _, rfl, Lib.hid ⟨rr.1, rfl, (by repeat (first | with_reducible exact Q0.out | (with_reducible refine RowAt.far ?_ (by assumption)) | with_reducible refine RowAt.drewN ?_ _)), (by repeat (first | with_reducible exact Q1.out | (with_reducible refine RowAt.far ?_ (by assumption)) | with_reducible refine RowAt.drewN ?_ _)), (by repeat (first | with_reducible exact HP2.out | (with_reducible refine RowAt.far ?_ (by assumption)) | with_reducible refine RowAt.drewN ?_ _)), (by repeat (first | with_reducible exact HP3.out | (with_reducible refine RowAt.far ?_ (by assumption)) | with_reducible refine RowAt.drewN ?_ _)), RowAt.put (RowAt.put Q4.out _) _, (by repeat (first | with_reducible exact Q7.out | (with_reducible refine RowAt.far ?_ (by assumption)) | with_reducible refine RowAt.drewN ?_ _)), (by repeat (first | with_reducible exact HTR.out | with_reducible refine Trk.drewN ?_ _ | with_reducible refine Trk.set ?_ (by simp) _ _))⟩⟩
  case round =>
    clear hH0 hH1 hH2 hH3 hH4 hH5 hA0 hA1 hA2 hA3 hP0 hP1 hP2 hP3 hP4 hP5 hQ0 hQ1 hQ2 hQ3 hQ4 hO0 hO1 hO2 hO3 hO4 n0 n1 hfH hfP hfQ hfO HTR HP2 HP3 Q0 Q1 Q4 Q7
    obtain ⟨k, hk, rfl, HR⟩ := hrel
    obtain ⟨d, hd, k0, k1, k2, k3, k4, k7, ht⟩ := HR.out
    obtain ⟨⟨hH0, hH1, hH2, hH3, hH4, hH5⟩, ⟨hA0, hA1, hA2, hA3⟩, ⟨hP0, hP1, hP2, hP3, hP4, hP5⟩, ⟨hQ0, hQ1, hQ2, hQ3, hQ4⟩, ⟨hO0, hO1, hO2, hO3, hO4⟩, ⟨n0, n1⟩, hfH, hfP, hfQ, hfO⟩ := box_facts k0 k1 k2 k3 k4 k7
    have HK0 := Lib.hid k0
    have HK1 := Lib.hid k1
    have HP2 := Lib.hid k2
    have HP3 := Lib.hid k3
    have HK4 := Lib.hid k4
    have HK7 := Lib.hid k7
    have HTR := Lib.hid ht
    have HDD := Lib.hid hd
    have hwr8 := (hwl.out.bx ht.1).1
    obtain ⟨pl', cl', hv, _, _, hc⟩ := hwr8
    cases hv
    have HC := Lib.hid hc
    clear k0 k1 k2 k3 k4 k7 ht hd hc
    by_cases hlt : k < L.length
    · obtain ⟨x, hx⟩ : ∃ x, L[k]? = some x := ⟨L[k], List.getElem?_eq_getElem hlt⟩
      obtain ⟨b, off, rfl, hbl, x0, x1⟩ := HC.out k x hx
      have hwk := IntWalk.i64_in ((k : Int) + 1) (by omega)
      have hkL : (k : Int) < (L.length : Int) := by omega
      by_cases hxb : x.block = a.block
      · have hnew := datL_hit (r := rr.1) HUP.out hx hxb
        have HNEW := Lib.hid hnew
        have hxt : (x.block == a.block) = true := by simpa using hxb
        clear hnew hxb hx
        go_wp2
        go_quiet (fail)
        go_wp2
        go_roundw
        case rel => exact ⟨k + 1, by omega, by first | rfl | go_num, Lib.hid ⟨x.data, HNEW.out.symm, (by repeat (first | with_reducible exact HK0.out | (with_reducible refine RowAt.far ?_ (by assumption)) | with_reducible refine RowAt.drewN ?_ _)), (by repeat (first | with_reducible exact HK1.out | (with_reducible refine RowAt.far ?_ (by assumption)) | with_reducible refine RowAt.drewN ?_ _)), (by repeat (first | with_reducible exact HP2.out | (with_reducible refine RowAt.far ?_ (by assumption)) | with_reducible refine RowAt.drewN ?_ _)), (by repeat (first | with_reducible exact HP3.out | (with_reducible refine RowAt.far ?_ (by assumption)) | with_reducible refine RowAt.drewN ?_ _)), RowAt.put (RowAt.drewN HK4.out _) _, (by repeat (first | with_reducible exact HK7.out | (with_reducible refine RowAt.far ?_ (by assumption)) | with_reducible refine RowAt.drewN ?_ _)), (by repeat (first | with_reducible exact HTR.out | with_reducible refine Trk.drewN ?_ _ | with_reducible refine Trk.set ?_ (by simp) _ _))⟩⟩
        case measure => simp [intOf]; omega
      · have hnew := datL_same (r := rr.1) hx hxb
        rw [← HDD.out] at hnew
        have HNEW := Lib.hid hnew
        have hxt : (x.block == a.block) = false := by simpa using hxb
        clear hnew hxb hx
        go_wp2
        go_quiet (fail)
        go_wp2
        go_roundw
        case rel => exact ⟨k + 1, by omega, by first | rfl | go_num, Lib.hid ⟨d, HNEW.out.symm, (by repeat (first | with_reducible exact HK0.out | (with_reducible refine RowAt.far ?_ (by assumption)) | with_reducible refine RowAt.drewN ?_ _)), (by repeat (first | with_reducible exact HK1.out | (with_reducible refine RowAt.far ?_ (by assumption)) | with_reducible refine RowAt.drewN ?_ _)), (by repeat (first | with_reducible exact HP2.out | (with_reducible refine RowAt.far ?_ (by assumption)) | with_reducible refine RowAt.drewN ?_ _)), (by repeat (first | with_reducible exact HP3.out | (with_reducible refine RowAt.far ?_ (by assumption)) | with_reducible refine RowAt.drewN ?_ _)), (by repeat (first | with_reducible exact HK4.out | (with_reducible refine RowAt.far ?_ (by assumption)) | with_reducible refine RowAt.drewN ?_ _)), (by repeat (first | with_reducible exact HK7.out | (with_reducible refine RowAt.far ?_ (by assumption)) | with_reducible refine RowAt.drewN ?_ _)), (by repeat (first | with_reducible exact HTR.out | with_reducible refine Trk.drewN ?_ _ | with_reducible refine Trk.set ?_ (by simp) _ _))⟩⟩
        case measure => simp [intOf]; omega
    · have hkl : k = L.length := by omega
      have hfin : d = datL L a.block rr.1 := by rw [HDD.out, hkl, List.take_length]
      have hs2 : EM.step s a = (s, ⟨rr.2, d, 0, 0, 0⟩) := by rw [HST.out, hfin]
      have HS2 := Lib.hid hs2
      clear hfin hs2 hkl HDD HC
      go_wp2
      go_region
      all_goals
        go_wp2
        refine ended (G2 := G2) (G3 := G3) rfl rfl rfl (RowAt.drew (row_fin m23 (by repeat (first | with_reducible exact HP2.out | (with_reducible refine RowAt.far ?_ (by assumption)))) (by repeat (first | with_reducible exact HP3.out | (with_reducible refine RowAt.far ?_ (by assumption)))) _ _ _ _ _ _ _ _ _ _ _).1) (RowAt.drew (row_fin m23 (by repeat (first | with_reducible exact HP2.out | (with_reducible refine RowAt.far ?_ (by assumption)))) (by repeat (first | with_reducible exact HP3.out | (with_reducible refine RowAt.far ?_ (by assumption)))) _ _ _ _ _ _ _ _ _ _ _).2) ?_
        exact acted (s := s) (t := { s with l := L }) (z := ⟨rr.2, d, 0, 0, 0⟩) ((by rw [HS2.out, HLL.out])) (bs := [G0, G1, G2, G3, G4]) (W7 := W7) (by repeat (first | with_reducible exact HTR.out | with_reducible refine Trk.drew ?_ | with_reducible refine Trk.set ?_ (by simp) _ _)) HTY7.out HDL7.out hwl.out
end Go.Proofs.Ythjaanhkmfiajac
