/- The document's ActedOf: one action. Conditions: the house is sound, the action's numbers are ints. -/
import Derived.Test.YthjaanhkmfiajacRefHouses
import Derived.Deep.RegionHeld3
namespace Go.Proofs.Ythjaanhkmfiajac
open Go.RowKit LM EM

theorem fits_cut {D : List (List Wr)} {la j k : Nat} (hj : j ≤ fits (D.drop la) k) (hlt : la + j < D.length) :
    (bytesOf (D.take la)).length ≤ (bytesOf (D.take (la + j + 1))).length ∧ ((bytesOf (D.take (la + j + 1))).length - (bytesOf (D.take la)).length ≤ k ↔ j < fits (D.drop la) k) := by
  obtain ⟨W, hW⟩ : ∃ W, (D.drop la)[j]? = some W := ⟨_, List.getElem?_eq_getElem (by rw [List.length_drop]; omega)⟩
  have e : (bytesOf (D.take (la + j + 1))).length = (bytesOf (D.take la)).length + (bytesOf ((D.drop la).take (j + 1))).length := by
    rw [Nat.add_assoc, List.take_add]
    unfold bytesOf
    rw [List.flatMap_append, List.length_append]
  rw [e, bytes_snoc hW, ← fits_more hj hW]
  omega
set_option maxRecDepth 100000 in
set_option maxHeartbeats 4000000 in
theorem Acted_Crash (n : Nat) (hv : Value) (s : EM.St) (a : EM.Act) (w : World) (h : HouseV w hv s) (hI : EM.Inv n s) (hok : ActOk a) (hkd : a.kind = 7) :
    Calls Try.prog 12 #[hv, .agg #[.int .i64 a.kind, .int .i64 a.block, .string a.data, .int .i64 a.keep]] w (ActedRet s a w) := by
  obtain ⟨bi, bb, dv, lv, rfl, hty, hdl, hwr⟩ := h
  obtain ⟨pa, ca, pb, cb, rfl, rfl⟩ := hty.slices
  obtain ⟨pd, cd, rfl, hdc, hd47⟩ := hdl.slice
  obtain ⟨pl, cl, rfl⟩ := hwr.slice
  have hnw := hI.now
  obtain ⟨G0, hG0⟩ : ∃ G, G = w.heap.size := ⟨_, rfl⟩
  obtain ⟨G1, hG1⟩ : ∃ G, G = w.heap.size + 1 := ⟨_, rfl⟩
  obtain ⟨G2, hG2⟩ : ∃ G, G = w.heap.size + 1 + 1 := ⟨_, rfl⟩
  obtain ⟨G3, hG3⟩ : ∃ G, G = w.heap.size + 1 + 1 + 1 := ⟨_, rfl⟩
  obtain ⟨G4, hG4⟩ : ∃ G, G = w.heap.size + 1 + 1 + 1 + 1 := ⟨_, rfl⟩
  obtain ⟨W5, hW5⟩ : ∃ W, W = boxes w (.slice pa s.base.items.length ca) (.slice pb s.base.blocks.length cb) (.slice pd s.deals.length cd) (.int .i64 (s.last : Int)) (.bool s.op) (.slice pl s.l.length cl) (.int .i64 a.kind) (.int .i64 a.block) (.string a.data) (.int .i64 a.keep) := ⟨_, rfl⟩
  obtain ⟨r0, r1, r2, r3, r4, hs5, hb5⟩ := boxes_at hW5
  rw [← hG0] at r0
  rw [← hG1] at r1
  rw [← hG2] at r2
  rw [← hG3] at r3
  rw [← hG4] at r4
  have HKD := Lib.hid hkd
  have HG0 := Lib.hid hG0.symm
  have HG1 := Lib.hid hG1.symm
  have HG2 := Lib.hid hG2.symm
  have HG3 := Lib.hid hG3.symm
  have HG4 := Lib.hid hG4.symm
  have HW5 := Lib.hid hW5.symm
  have HR0 := Lib.hid r0
  have HR1 := Lib.hid r1
  have HR2 := Lib.hid r2
  have HR3 := Lib.hid r3
  have HR4 := Lib.hid r4
  have HB5 := Lib.hid hb5
  have HTY := Lib.hid (hty.keep hb5)
  have HDL := Lib.hid (hdl.bx (.of_below hb5))
  have HWR := Lib.hid (hwr.bx (.of_below hb5))
  have HI := Lib.hid hI
  have HNW := Lib.hid hnw
  have HOK := Lib.hid hok
  have HS5 := Lib.hid hs5
  have hH0 := r0.cell 0
  have hH1 := r0.cell 1
  have hH2 := r0.cell 2
  have hH3 := r0.cell 3
  have hH4 := r0.cell 4
  have hH5 := r0.cell 5
  simp only [List.getElem?_toArray, List.getElem?_cons_zero, List.getElem?_cons_succ] at hH0 hH1 hH2 hH3 hH4 hH5
  clear hty hdl hwr hnw hI hok hkd hW5 hG0 hG1 hG2 hG3 hG4 hs5 hb5 r0 r1 r2 r3 r4
  go_enter Try.func12, Try.ntmps12
  go_upto_region 2 with (fail)
  change Code.wp _ _ _ _ (boxes w (.slice pa s.base.items.length ca) (.slice pb s.base.blocks.length cb) (.slice pd s.deals.length cd) (.int .i64 (s.last : Int)) (.bool s.op) (.slice pl s.l.length cl) (.int .i64 a.kind) (.int .i64 a.block) (.string a.data) (.int .i64 a.keep))
  rw [HW5.out, HG4.out, HG3.out, HG2.out, HG1.out, HG0.out]
  go_upto_region 3 with (go_at_call 14; refine (Now_any _ s _ ⟨_, _, _, _, rfl, HTY.out, HDL.out, HWR.out⟩ HI.out.base HI.out.each).mono ?_; rintro e w6 ⟨x6, y6, rfl, hty6, hb6⟩; obtain ⟨px, cx, py, cy, rfl, rfl⟩ := hty6.slices)
  obtain ⟨G7, hG7⟩ : ∃ G, G = w6.heap.size := ⟨_, rfl⟩
  obtain ⟨W7, hW7⟩ : ∃ W, W = w6.alloc (.cells #[.slice px s.now.items.length cx, .slice py s.now.blocks.length cy] 27) := ⟨_, rfl⟩
  rw [← hW7, ← hG7]
  have hal : Below w6.heap.size w6 W7 := by rw [hW7]; exact below_alloc (Below.refl _ _) _
  have hb57 : Below W5.heap.size W5 W7 := below_then hb6 hal
  have hnb : VBox W7 G7 (.slice px s.now.items.length cx) (.slice py s.now.blocks.length cy) := by rw [hW7, hG7]; exact VBox.new _ _ _
  have hnt : VolTy W7 (.slice px s.now.items.length cx) (.slice py s.now.blocks.length cy) s.now := hty6.keep hal
  have hGN : G4 < G7 := by rw [hG7, ← HG4.out]; have := hb6.size; have := HS5.out; omega
  have hGs : w.heap.size ≤ G0 ∧ w.heap.size ≤ G1 ∧ w.heap.size ≤ G2 ∧ w.heap.size ≤ G3 ∧ w.heap.size ≤ G4 ∧ G0 < G1 ∧ G1 < G2 ∧ G2 < G3 ∧ G3 < G4 := by have := HG0.out; have := HG1.out; have := HG2.out; have := HG3.out; have := HG4.out; omega
  have htr := Trk.first HB5.out hb57 ⟨hGs.1, hGs.2.1, hGs.2.2.1, hGs.2.2.2.1, hGs.2.2.2.2.1⟩ HR0.out HR1.out HR2.out HR3.out HR4.out
  obtain ⟨q0, q1, q2, q3, q4⟩ : RowAt W7 G0 _ _ ∧ RowAt W7 G1 _ _ ∧ RowAt W7 G2 _ _ ∧ RowAt W7 G3 _ _ ∧ RowAt W7 G4 _ _ := ⟨HR0.out.past hb57, HR1.out.past hb57, HR2.out.past hb57, HR3.out.past hb57, HR4.out.past hb57⟩
  have HTR := Lib.hid htr
  have HP2 := Lib.hid q2
  have HP3 := Lib.hid q3
  have HNT := Lib.hid hnt
  have HTY7 := Lib.hid (HTY.out.keep hb57)
  have HDL7 := Lib.hid (HDL.out.bx (.of_below hb57))
  have HWR7 := Lib.hid (HWR.out.bx (.of_below hb57))
  clear hH0 hH1 hH2 hH3 hH4 hH5
  have m01 : ¬ G0 = G1 := by omega
  have m02 : ¬ G0 = G2 := by omega
  have m03 : ¬ G0 = G3 := by omega
  have m04 : ¬ G0 = G4 := by omega
  have m07 : ¬ G0 = G7 := by omega
  have m10 : ¬ G1 = G0 := by omega
  have m12 : ¬ G1 = G2 := by omega
  have m13 : ¬ G1 = G3 := by omega
  have m14 : ¬ G1 = G4 := by omega
  have m17 : ¬ G1 = G7 := by omega
  have m20 : ¬ G2 = G0 := by omega
  have m21 : ¬ G2 = G1 := by omega
  have m23 : ¬ G2 = G3 := by omega
  have m24 : ¬ G2 = G4 := by omega
  have m27 : ¬ G2 = G7 := by omega
  have m30 : ¬ G3 = G0 := by omega
  have m31 : ¬ G3 = G1 := by omega
  have m32 : ¬ G3 = G2 := by omega
  have m34 : ¬ G3 = G4 := by omega
  have m37 : ¬ G3 = G7 := by omega
  have m40 : ¬ G4 = G0 := by omega
  have m41 : ¬ G4 = G1 := by omega
  have m42 : ¬ G4 = G2 := by omega
  have m43 : ¬ G4 = G3 := by omega
  have m47 : ¬ G4 = G7 := by omega
  have m70 : ¬ G7 = G0 := by omega
  have m71 : ¬ G7 = G1 := by omega
  have m72 : ¬ G7 = G2 := by omega
  have m73 : ¬ G7 = G3 := by omega
  have m74 : ¬ G7 = G4 := by omega
  have Q0 := Lib.hid q0
  have Q1 := Lib.hid q1
  have Q4 := Lib.hid q4
  have Q7 := Lib.hid (show RowAt W7 G7 27 #[.slice px s.now.items.length cx, .slice py s.now.blocks.length cy] from hnb)
  obtain ⟨⟨hH0, hH1, hH2, hH3, hH4, hH5⟩, ⟨hA0, hA1, hA2, hA3⟩, ⟨hP0, hP1, hP2, hP3, hP4, hP5⟩, ⟨hQ0, hQ1, hQ2, hQ3, hQ4⟩, ⟨hO0, hO1, hO2, hO3, hO4⟩, ⟨n0, n1⟩, hfH, hfP, hfQ, hfO⟩ := box_facts q0 q1 q2 q3 q4 Q7.out
  clear hal hb57 hnb hty6 hb6 hW7 hG7 htr hnt q0 q1 q2 q3 q4 HR0 HR1 HR2 HR3 HR4 HB5 HTY HDL HWR HS5 HW5 HG0 HG1 HG2 HG3 HG4 hGs hGN
  rw [HKD.out] at hA0
  have hst := step_kind7 (s := s) HKD.out
  by_cases hneg : a.keep < 0
  · have hs2 : EM.step s a = (s, EM.err 2) := by rw [hst, if_pos hneg]
    have HS2 := Lib.hid hs2
    clear hs2 hst
    go_wp2
    go_region
    all_goals
      go_wp2
      refine ended (G2 := G2) (G3 := G3) rfl rfl rfl (RowAt.drew (row_fin m23 (by repeat (first | with_reducible exact HP2.out | (with_reducible refine RowAt.far ?_ (by assumption)))) (by repeat (first | with_reducible exact HP3.out | (with_reducible refine RowAt.far ?_ (by assumption)))) _ _ _ _ _ _ _ _ _ _ _).1) (RowAt.drew (row_fin m23 (by repeat (first | with_reducible exact HP2.out | (with_reducible refine RowAt.far ?_ (by assumption)))) (by repeat (first | with_reducible exact HP3.out | (with_reducible refine RowAt.far ?_ (by assumption)))) _ _ _ _ _ _ _ _ _ _ _).2) ?_
      exact acted (s := s) (t := s) (z := EM.err 2) (HS2.out) (bs := [G0, G1, G2, G3, G4]) (W7 := W7) (by repeat (first | with_reducible exact HTR.out | with_reducible refine Trk.drew ?_ | with_reducible refine Trk.set ?_ (by simp) _ _)) HTY7.out HDL7.out HWR7.out
  · obtain ⟨kk, hkk⟩ : ∃ kk : Nat, a.keep = (kk : Int) := ⟨a.keep.toNat, by omega⟩
    obtain ⟨F, hF⟩ : ∃ F, F = fits (s.deals.drop s.last) kk := ⟨_, rfl⟩
    rw [if_neg hneg, hkk, Int.toNat_natCast, ← hF] at hst
    have hkb := HOK.out.keep
    rw [hkk] at hkb hA3 hneg
    have hlast := HI.out.last
    have hFle := fits_le (s.deals.drop s.last) kk
    rw [List.length_drop, ← hF] at hFle
    have hlg := HI.out.log
    have hlen : ∀ X, Bx W7 X → ∀ m, m ≤ s.deals.length → Calls Try.prog 31 #[.agg #[.slice pa s.base.items.length ca, .slice pb s.base.blocks.length cb, .slice pd s.deals.length cd, .int .i64 (s.last : Int), .bool s.op, .slice pl s.l.length cl], .int .i64 (m : Int)] X fun e w' => e = .returned (.int .i64 ((bytesOf (s.deals.take m)).length : Int)) ∧ Below X.heap.size X w' :=
      fun X hX m hm => length_any _ s m hm hlg X ⟨_, _, _, _, rfl, HTY7.out.bx hX, HDL7.out.bx hX, HWR7.out.bx hX⟩
    have HLEN := Lib.hid hlen
    have HST := Lib.hid hst
    have HF := Lib.hid hF
    have HLG := Lib.hid hlg
    have HKKE := Lib.hid hkk
    clear hst hF hlen hlg hkk
    go_wp2
    go_loopw [15] (fun i wr => ∃ nn : Nat, s.last ≤ nn ∧ nn ≤ s.last + F ∧ i = .int .i64 (nn : Int) ∧ Hid (RowAt wr G0 47 #[.slice pa s.base.items.length ca, .slice pb s.base.blocks.length cb, .slice pd s.deals.length cd, .int .i64 (s.last : Int), .bool s.op, .slice pl s.l.length cl] ∧ RowAt wr G1 41 #[.int .i64 a.kind, .int .i64 a.block, .string a.data, .int .i64 a.keep] ∧ RowAt wr G2 47 #[.slice none 0 0, .slice none 0 0, .slice none 0 0, .int .i64 0, .bool false, .slice none 0 0] ∧ RowAt wr G3 43 #[.int .i64 0, .string ⟨#[]⟩, .int .i64 0, .int .i64 0, .int .i64 0] ∧ RowAt wr G4 43 #[.int .i64 0, .string ⟨#[]⟩, .int .i64 0, .int .i64 0, .int .i64 0] ∧ RowAt wr G7 27 #[.slice px s.now.items.length cx, .slice py s.now.blocks.length cy] ∧ Trk w.heap.size w W7 [G0, G1, G2, G3, G4] wr)) (fun i _ => s.last + F - (intOf i).toNat)
    case atStart => exact ⟨s.last, Nat.le_refl _, Nat.le_add_right _ _, rfl, Lib.hid ⟨Q0.out, Q1.out, HP2.out, HP3.out, Q4.out, Q7.out, HTR.out⟩⟩
    case round =>
      clear hH0 hH1 hH2 hH3 hH4 hH5 hA0 hA1 hA2 hA3 hP0 hP1 hP2 hP3 hP4 hP5 hQ0 hQ1 hQ2 hQ3 hQ4 hO0 hO1 hO2 hO3 hO4 n0 n1 hfH hfP hfQ hfO HTR HP2 HP3 Q0 Q1 Q4 Q7
      obtain ⟨nn, hn1, hn2, rfl, HR⟩ := hrel
      obtain ⟨k0, k1, k2, k3, k4, k7, ht⟩ := HR.out
      obtain ⟨⟨hH0, hH1, hH2, hH3, hH4, hH5⟩, ⟨hA0, hA1, hA2, hA3⟩, ⟨hP0, hP1, hP2, hP3, hP4, hP5⟩, ⟨hQ0, hQ1, hQ2, hQ3, hQ4⟩, ⟨hO0, hO1, hO2, hO3, hO4⟩, ⟨n0, n1⟩, hfH, hfP, hfQ, hfO⟩ := box_facts k0 k1 k2 k3 k4 k7
      rw [HKKE.out] at hA3
      have hl0 := k0.lt
      have hl1 := k1.lt
      have HC0 := Lib.hid hH0
      have HC1 := Lib.hid hH1
      have HC2 := Lib.hid hH2
      have HC3 := Lib.hid hH3
      have HC4 := Lib.hid hH4
      have HC5 := Lib.hid hH5
      have HC6 := Lib.hid hA3
      have HK0 := Lib.hid k0
      have HK1 := Lib.hid k1
      have HP2 := Lib.hid k2
      have HP3 := Lib.hid k3
      have HK4 := Lib.hid k4
      have HK7 := Lib.hid k7
      have HTR := Lib.hid ht
      clear k0 k1 k2 k3 k4 k7 ht
      by_cases hnD : nn < s.deals.length
      · obtain ⟨hcut1, hcut2⟩ := fits_cut (D := s.deals) (la := s.last) (j := nn - s.last) (k := kk) (by rw [← HF.out]; omega) (by omega)
        rw [show s.last + (nn - s.last) + 1 = nn + 1 by omega] at hcut1 hcut2
        rw [← HF.out] at hcut2
        have hl1' : ∀ X, Below wr.heap.size wr X → Calls Try.prog 31 #[.agg #[.slice pa s.base.items.length ca, .slice pb s.base.blocks.length cb, .slice pd s.deals.length cd, .int .i64 (s.last : Int), .bool s.op, .slice pl s.l.length cl], .int .i64 ((nn : Int) + 1)] X fun e w' => e = .returned (.int .i64 ((bytesOf (s.deals.take (nn + 1))).length : Int)) ∧ Below X.heap.size X w' := by
          intro X hX
          exact HLEN.out X (HTR.out.1.trans (.of_below hX)) (nn + 1) (by omega)
        have hl2' : ∀ X, Below wr.heap.size wr X → Calls Try.prog 31 #[.agg #[.slice pa s.base.items.length ca, .slice pb s.base.blocks.length cb, .slice pd s.deals.length cd, .int .i64 (s.last : Int), .bool s.op, .slice pl s.l.length cl], .int .i64 (s.last : Int)] X fun e w' => e = .returned (.int .i64 ((bytesOf (s.deals.take s.last)).length : Int)) ∧ Below X.heap.size X w' := by
          intro X hX
          exact HLEN.out X (HTR.out.1.trans (.of_below hX)) s.last hlast
        have hpm := bytes_take s.deals (nn + 1)
        have hpl := HLG.out
        obtain ⟨p1, hp1⟩ : ∃ p1, p1 = (bytesOf (s.deals.take (nn + 1))).length := ⟨_, rfl⟩
        obtain ⟨p0, hp0⟩ : ∃ p0, p0 = (bytesOf (s.deals.take s.last)).length := ⟨_, rfl⟩
        rw [← hp1] at hcut1 hcut2 hl1' hpm
        rw [← hp0] at hcut1 hcut2 hl2'
        have HL1 := Lib.hid hl1'
        have HL2 := Lib.hid hl2'
        have hwk1 := IntWalk.i64_in ((nn : Int) + 1) (by omega)
        have hwk2 := IntWalk.i64_in ((p1 : Int) - (p0 : Int)) (by omega)
        have hnDi : (nn : Int) < (s.deals.length : Int) := by omega
        clear hl1' hl2' hp1 hp0
        by_cases hjF : nn - s.last < F
        · have hcmp : (p1 : Int) - (p0 : Int) ≤ (kk : Int) := by have := hcut2.2 hjF; omega
          clear hcut1 hcut2 hpm hpl
          go_wp2
          go_region_held3 (fun w' => w'.cell? ⟨G0, 0, none⟩ = some (.slice pa s.base.items.length ca) ∧ w'.cell? ⟨G0, 1, none⟩ = some (.slice pb s.base.blocks.length cb) ∧ w'.cell? ⟨G0, 2, none⟩ = some (.slice pd s.deals.length cd) ∧ w'.cell? ⟨G0, 3, none⟩ = some (.int .i64 (s.last : Int)) ∧ w'.cell? ⟨G0, 4, none⟩ = some (.bool s.op) ∧ w'.cell? ⟨G0, 5, none⟩ = some (.slice pl s.l.length cl) ∧ w'.cell? ⟨G1, 3, none⟩ = some (.int .i64 (kk : Int))) (first | with_reducible exact ⟨s0, s1, s2, s3, s4, s5, s6⟩ | go_keep)
          ((first
            | (go_at_call 31; with_reducible refine (HL1.out _ (by first | exact (Below.refl _ _).drew | exact HBN.out)).mono ?_; rintro e w8 ⟨rfl, hb8⟩; (have hbn : Below wr.heap.size wr w8 := below_then (by first | exact (Below.refl _ _).drew | exact HBN.out) hb8); have s0 := (hbn.cell (p := ⟨G0, 0, none⟩) hl0).trans HC0.out; have s1 := (hbn.cell (p := ⟨G0, 1, none⟩) hl0).trans HC1.out; have s2 := (hbn.cell (p := ⟨G0, 2, none⟩) hl0).trans HC2.out; have s3 := (hbn.cell (p := ⟨G0, 3, none⟩) hl0).trans HC3.out; have s4 := (hbn.cell (p := ⟨G0, 4, none⟩) hl0).trans HC4.out; have s5 := (hbn.cell (p := ⟨G0, 5, none⟩) hl0).trans HC5.out; have s6 := (hbn.cell (p := ⟨G1, 3, none⟩) hl1).trans HC6.out; have HBN0 := Lib.hid hbn; (try clear HBN); have HBN := HBN0; clear HBN0 hbn hb8)
            | (go_at_call 31; with_reducible refine (HL2.out _ (by first | exact (Below.refl _ _).drew | exact HBN.out)).mono ?_; rintro e w8 ⟨rfl, hb8⟩; (have hbn : Below wr.heap.size wr w8 := below_then (by first | exact (Below.refl _ _).drew | exact HBN.out) hb8); have s0 := (hbn.cell (p := ⟨G0, 0, none⟩) hl0).trans HC0.out; have s1 := (hbn.cell (p := ⟨G0, 1, none⟩) hl0).trans HC1.out; have s2 := (hbn.cell (p := ⟨G0, 2, none⟩) hl0).trans HC2.out; have s3 := (hbn.cell (p := ⟨G0, 3, none⟩) hl0).trans HC3.out; have s4 := (hbn.cell (p := ⟨G0, 4, none⟩) hl0).trans HC4.out; have s5 := (hbn.cell (p := ⟨G0, 5, none⟩) hl0).trans HC5.out; have s6 := (hbn.cell (p := ⟨G1, 3, none⟩) hl1).trans HC6.out; have HBN0 := Lib.hid hbn; (try clear HBN); have HBN := HBN0; clear HBN0 hbn hb8)))
          all_goals
            go_wp2
            go_roundw
            case rel => exact ⟨nn + 1, by omega, by omega, by first | rfl | go_num, Lib.hid ⟨HK0.out.past HBN.out, HK1.out.past HBN.out, HP2.out.past HBN.out, HP3.out.past HBN.out, HK4.out.past HBN.out, HK7.out.past HBN.out, HTR.out.past HBN.out⟩⟩
            case measure => simp [intOf]; omega
        · have hnF : s.last + F = nn := by omega
          have hcmp : ¬ (p1 : Int) - (p0 : Int) ≤ (kk : Int) := by
            intro hle
            exact hjF (hcut2.1 (by omega))
          clear hcut1 hcut2 hpm hpl
          go_wp2
          go_region_held3 (fun w' => w'.cell? ⟨G0, 0, none⟩ = some (.slice pa s.base.items.length ca) ∧ w'.cell? ⟨G0, 1, none⟩ = some (.slice pb s.base.blocks.length cb) ∧ w'.cell? ⟨G0, 2, none⟩ = some (.slice pd s.deals.length cd) ∧ w'.cell? ⟨G0, 3, none⟩ = some (.int .i64 (s.last : Int)) ∧ w'.cell? ⟨G0, 4, none⟩ = some (.bool s.op) ∧ w'.cell? ⟨G0, 5, none⟩ = some (.slice pl s.l.length cl) ∧ w'.cell? ⟨G1, 3, none⟩ = some (.int .i64 (kk : Int))) (first | with_reducible exact ⟨s0, s1, s2, s3, s4, s5, s6⟩ | go_keep)
          ((first
            | (go_at_call 31; with_reducible refine (HL1.out _ (by first | exact (Below.refl _ _).drew | exact HBN.out)).mono ?_; rintro e w8 ⟨rfl, hb8⟩; (have hbn : Below wr.heap.size wr w8 := below_then (by first | exact (Below.refl _ _).drew | exact HBN.out) hb8); have s0 := (hbn.cell (p := ⟨G0, 0, none⟩) hl0).trans HC0.out; have s1 := (hbn.cell (p := ⟨G0, 1, none⟩) hl0).trans HC1.out; have s2 := (hbn.cell (p := ⟨G0, 2, none⟩) hl0).trans HC2.out; have s3 := (hbn.cell (p := ⟨G0, 3, none⟩) hl0).trans HC3.out; have s4 := (hbn.cell (p := ⟨G0, 4, none⟩) hl0).trans HC4.out; have s5 := (hbn.cell (p := ⟨G0, 5, none⟩) hl0).trans HC5.out; have s6 := (hbn.cell (p := ⟨G1, 3, none⟩) hl1).trans HC6.out; have HBN0 := Lib.hid hbn; (try clear HBN); have HBN := HBN0; clear HBN0 hbn hb8)
            | (go_at_call 31; with_reducible refine (HL2.out _ (by first | exact (Below.refl _ _).drew | exact HBN.out)).mono ?_; rintro e w8 ⟨rfl, hb8⟩; (have hbn : Below wr.heap.size wr w8 := below_then (by first | exact (Below.refl _ _).drew | exact HBN.out) hb8); have s0 := (hbn.cell (p := ⟨G0, 0, none⟩) hl0).trans HC0.out; have s1 := (hbn.cell (p := ⟨G0, 1, none⟩) hl0).trans HC1.out; have s2 := (hbn.cell (p := ⟨G0, 2, none⟩) hl0).trans HC2.out; have s3 := (hbn.cell (p := ⟨G0, 3, none⟩) hl0).trans HC3.out; have s4 := (hbn.cell (p := ⟨G0, 4, none⟩) hl0).trans HC4.out; have s5 := (hbn.cell (p := ⟨G0, 5, none⟩) hl0).trans HC5.out; have s6 := (hbn.cell (p := ⟨G1, 3, none⟩) hl1).trans HC6.out; have HBN0 := Lib.hid hbn; (try clear HBN); have HBN := HBN0; clear HBN0 hbn hb8)))
          all_goals
            have k0 := HK0.out.past HBN.out
            have k1 := HK1.out.past HBN.out
            have k2 := HP2.out.past HBN.out
            have k3 := HP3.out.past HBN.out
            have k4 := HK4.out.past HBN.out
            have k7 := HK7.out.past HBN.out
            have ht := HTR.out.past HBN.out
            clear HP2 HP3 HTR hH0 hH1 hH2 hH3 hH4 hH5 hA0 hA1 hA2 hA3 hP0 hP1 hP2 hP3 hP4 hP5 hQ0 hQ1 hQ2 hQ3 hQ4 hO0 hO1 hO2 hO3 hO4 n0 n1 hfH hfP hfQ hfO
            obtain ⟨⟨hH0, hH1, hH2, hH3, hH4, hH5⟩, ⟨hA0, hA1, hA2, hA3⟩, ⟨hP0, hP1, hP2, hP3, hP4, hP5⟩, ⟨hQ0, hQ1, hQ2, hQ3, hQ4⟩, ⟨hO0, hO1, hO2, hO3, hO4⟩, ⟨n0, n1⟩, hfH, hfP, hfQ, hfO⟩ := box_facts k0 k1 k2 k3 k4 k7
            have HP2 := Lib.hid k2
            have HP3 := Lib.hid k3
            have HTR := Lib.hid ht
            clear k0 k1 k2 k3 k4 k7 ht
            have hs2 : EM.step s a = (⟨s.base, s.deals.take nn, nn, false, []⟩, { EM.ok with count := (nn : Int) }) := by rw [HST.out, hnF]
            have HS2 := Lib.hid hs2
            have hdt := (HDL7.out.take (k := nn) (by omega))
            have HDT := Lib.hid hdt
            have hnc : nn ≤ cd := by omega
            clear hs2 hdt
            go_wp2
            go_region
            all_goals
              go_wp2
              refine ended (G2 := G2) (G3 := G3) rfl rfl rfl (RowAt.drew (row_fin m23 (by repeat (first | with_reducible exact HP2.out | (with_reducible refine RowAt.far ?_ (by assumption)))) (by repeat (first | with_reducible exact HP3.out | (with_reducible refine RowAt.far ?_ (by assumption)))) _ _ _ _ _ _ _ _ _ _ _).1) (RowAt.drew (row_fin m23 (by repeat (first | with_reducible exact HP2.out | (with_reducible refine RowAt.far ?_ (by assumption)))) (by repeat (first | with_reducible exact HP3.out | (with_reducible refine RowAt.far ?_ (by assumption)))) _ _ _ _ _ _ _ _ _ _ _).2) ?_
              exact acted (s := s) (t := ⟨s.base, s.deals.take nn, nn, false, []⟩) (z := { EM.ok with count := (nn : Int) }) (HS2.out) (bs := [G0, G1, G2, G3, G4]) (W7 := W7) (by repeat (first | with_reducible exact HTR.out | with_reducible refine Trk.drew ?_ | with_reducible refine Trk.set ?_ (by simp) _ _)) HTY7.out HDT.out (InnerAt.nil W7)
      · have hnF : s.last + F = nn := by omega
        have hnDi : decide ((nn : Int) < (s.deals.length : Int)) = false := by simp; omega
        go_wp2
        go_quiet (fail)
        have HP2q := Lib.hid (RowAt.drewN HP2.out nq)
        have HP3q := Lib.hid (RowAt.drewN HP3.out nq)
        have HTRq := Lib.hid (Trk.drewN HTR.out nq)
        clear HP2 HP3 HTR
        have HP2 := HP2q
        have HP3 := HP3q
        have HTR := HTRq
        clear HP2q HP3q HTRq
        have hs2 : EM.step s a = (⟨s.base, s.deals.take nn, nn, false, []⟩, { EM.ok with count := (nn : Int) }) := by rw [HST.out, hnF]
        have HS2 := Lib.hid hs2
        have hdt := (HDL7.out.take (k := nn) (by omega))
        have HDT := Lib.hid hdt
        have hnc : nn ≤ cd := by omega
        clear hs2 hdt
        go_wp2
        go_region
        all_goals
          go_wp2
          refine ended (G2 := G2) (G3 := G3) rfl rfl rfl (RowAt.drew (row_fin m23 (by repeat (first | with_reducible exact HP2.out | (with_reducible refine RowAt.far ?_ (by assumption)))) (by repeat (first | with_reducible exact HP3.out | (with_reducible refine RowAt.far ?_ (by assumption)))) _ _ _ _ _ _ _ _ _ _ _).1) (RowAt.drew (row_fin m23 (by repeat (first | with_reducible exact HP2.out | (with_reducible refine RowAt.far ?_ (by assumption)))) (by repeat (first | with_reducible exact HP3.out | (with_reducible refine RowAt.far ?_ (by assumption)))) _ _ _ _ _ _ _ _ _ _ _).2) ?_
          exact acted (s := s) (t := ⟨s.base, s.deals.take nn, nn, false, []⟩) (z := { EM.ok with count := (nn : Int) }) (HS2.out) (bs := [G0, G1, G2, G3, G4]) (W7 := W7) (by repeat (first | with_reducible exact HTR.out | with_reducible refine Trk.drew ?_ | with_reducible refine Trk.set ?_ (by simp) _ _)) HTY7.out HDT.out (InnerAt.nil W7)
end Go.Proofs.Ythjaanhkmfiajac
