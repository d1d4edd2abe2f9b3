/- The plain mathematics of items, volumes, writes, logs and engines, and rows that a call owns: texts merged into one. No condition but those in the statements. -/
import Derived.Test.YthjaanhkmfiajacRefHouses
/- The document's ActedOf: one action. Conditions: the house is sound, the action's numbers are ints. -/
namespace Go.Proofs.Ythjaanhkmfiajac
open Go.RowKit LM EM

set_option maxRecDepth 100000 in
set_option maxHeartbeats 4000000 in
theorem Acted_Begin (n : Nat) (hv : Value) (s : EM.St) (a : EM.Act) (w : World) (h : HouseV w hv s) (hI : EM.Inv n s) (hok : ActOk a) (hkd : a.kind = 1) :
    Calls Try.prog 12 #[hv, .agg #[.int .i64 a.kind, .int .i64 a.block, .string a.data, .int .i64 a.keep]] w (ActedRet s a w) := by
  obtain ⟨bi, bb, dv, lv, rfl, hty, hdl, hwr⟩ := h
  obtain ⟨pa, ca, pb, cb, rfl, rfl⟩ := hty.slices
  obtain ⟨pd, cd, rfl, hdc, hd47⟩ := hdl.slice
  obtain ⟨pl, cl, rfl⟩ := hwr.slice
  have hnw := hI.now
  obtain ⟨G0, hG0⟩ : ∃ G, G = w.heap.size := ⟨_, rfl⟩
  obtain ⟨G1, hG1⟩ : ∃ G, G = w.heap.size + 1 := ⟨_, rfl⟩
  obtain ⟨G2, hG2⟩ : ∃ G, G = w.heap.size + 1 + 1 := ⟨_, rfl⟩
  obtain ⟨G3, hG3⟩ : ∃ G, G = w.heap.size + 1 + 1 + 1 := ⟨_, rfl⟩
  obtain ⟨G4, hG4⟩ : ∃ G, G = w.heap.size + 1 + 1 + 1 + 1 := ⟨_, rfl⟩
  obtain ⟨W5, hW5⟩ : ∃ W, W = boxes w (.slice pa s.base.items.length ca) (.slice pb s.base.blocks.length cb) (.slice pd s.deals.length cd) (.int .i64 (s.last : Int)) (.bool s.op) (.slice pl s.l.length cl) (.int .i64 a.kind) (.int .i64 a.block) (.string a.data) (.int .i64 a.keep) := ⟨_, rfl⟩
  obtain ⟨r0, r1, r2, r3, r4, hs5, hb5⟩ := boxes_at hW5
  rw [← hG0] at r0
  rw [← hG1] at r1
  rw [← hG2] at r2
  rw [← hG3] at r3
  rw [← hG4] at r4
  have HKD := Lib.hid hkd
  have HG0 := Lib.hid hG0.symm
  have HG1 := Lib.hid hG1.symm
  have HG2 := Lib.hid hG2.symm
  have HG3 := Lib.hid hG3.symm
  have HG4 := Lib.hid hG4.symm
  have HW5 := Lib.hid hW5.symm
  have HR0 := Lib.hid r0
  have HR1 := Lib.hid r1
  have HR2 := Lib.hid r2
  have HR3 := Lib.hid r3
  have HR4 := Lib.hid r4
  have HB5 := Lib.hid hb5
  have HTY := Lib.hid (hty.keep hb5)
  have HDL := Lib.hid (hdl.bx (.of_below hb5))
  have HWR := Lib.hid (hwr.bx (.of_below hb5))
  have HI := Lib.hid hI
  have HNW := Lib.hid hnw
  have HOK := Lib.hid hok
  have HS5 := Lib.hid hs5
  have hH0 := r0.cell 0
  have hH1 := r0.cell 1
  have hH2 := r0.cell 2
  have hH3 := r0.cell 3
  have hH4 := r0.cell 4
  have hH5 := r0.cell 5
  simp only [List.getElem?_toArray, List.getElem?_cons_zero, List.getElem?_cons_succ] at hH0 hH1 hH2 hH3 hH4 hH5
  clear hty hdl hwr hnw hI hok hkd hW5 hG0 hG1 hG2 hG3 hG4 hs5 hb5 r0 r1 r2 r3 r4
  go_enter Try.func12, Try.ntmps12
  go_upto_region 2 with (fail)
  change Code.wp _ _ _ _ (boxes w (.slice pa s.base.items.length ca) (.slice pb s.base.blocks.length cb) (.slice pd s.deals.length cd) (.int .i64 (s.last : Int)) (.bool s.op) (.slice pl s.l.length cl) (.int .i64 a.kind) (.int .i64 a.block) (.string a.data) (.int .i64 a.keep))
  rw [HW5.out, HG4.out, HG3.out, HG2.out, HG1.out, HG0.out]
  go_upto_region 3 with (go_at_call 14; refine (Now_any _ s _ ⟨_, _, _, _, rfl, HTY.out, HDL.out, HWR.out⟩ HI.out.base HI.out.each).mono ?_; rintro e w6 ⟨x6, y6, rfl, hty6, hb6⟩; obtain ⟨px, cx, py, cy, rfl, rfl⟩ := hty6.slices)
  obtain ⟨G7, hG7⟩ : ∃ G, G = w6.heap.size := ⟨_, rfl⟩
  obtain ⟨W7, hW7⟩ : ∃ W, W = w6.alloc (.cells #[.slice px s.now.items.length cx, .slice py s.now.blocks.length cy] 27) := ⟨_, rfl⟩
  rw [← hW7, ← hG7]
  have hal : Below w6.heap.size w6 W7 := by rw [hW7]; exact below_alloc (Below.refl _ _) _
  have hb57 : Below W5.heap.size W5 W7 := below_then hb6 hal
  have hnb : VBox W7 G7 (.slice px s.now.items.length cx) (.slice py s.now.blocks.length cy) := by rw [hW7, hG7]; exact VBox.new _ _ _
  have hnt : VolTy W7 (.slice px s.now.items.length cx) (.slice py s.now.blocks.length cy) s.now := hty6.keep hal
  have hGN : G4 < G7 := by rw [hG7, ← HG4.out]; have := hb6.size; have := HS5.out; omega
  have hGs : w.heap.size ≤ G0 ∧ w.heap.size ≤ G1 ∧ w.heap.size ≤ G2 ∧ w.heap.size ≤ G3 ∧ w.heap.size ≤ G4 ∧ G0 < G1 ∧ G1 < G2 ∧ G2 < G3 ∧ G3 < G4 := by have := HG0.out; have := HG1.out; have := HG2.out; have := HG3.out; have := HG4.out; omega
  have htr := Trk.first HB5.out hb57 ⟨hGs.1, hGs.2.1, hGs.2.2.1, hGs.2.2.2.1, hGs.2.2.2.2.1⟩ HR0.out HR1.out HR2.out HR3.out HR4.out
  obtain ⟨q0, q1, q2, q3, q4⟩ : RowAt W7 G0 _ _ ∧ RowAt W7 G1 _ _ ∧ RowAt W7 G2 _ _ ∧ RowAt W7 G3 _ _ ∧ RowAt W7 G4 _ _ := ⟨HR0.out.past hb57, HR1.out.past hb57, HR2.out.past hb57, HR3.out.past hb57, HR4.out.past hb57⟩
  have HTR := Lib.hid htr
  have HP2 := Lib.hid q2
  have HP3 := Lib.hid q3
  have HNT := Lib.hid hnt
  have HTY7 := Lib.hid (HTY.out.keep hb57)
  have HDL7 := Lib.hid (HDL.out.bx (.of_below hb57))
  have HWR7 := Lib.hid (HWR.out.bx (.of_below hb57))
  clear hH0 hH1 hH2 hH3 hH4 hH5
  have m01 : ¬ G0 = G1 := by omega
  have m02 : ¬ G0 = G2 := by omega
  have m03 : ¬ G0 = G3 := by omega
  have m04 : ¬ G0 = G4 := by omega
  have m07 : ¬ G0 = G7 := by omega
  have m10 : ¬ G1 = G0 := by omega
  have m12 : ¬ G1 = G2 := by omega
  have m13 : ¬ G1 = G3 := by omega
  have m14 : ¬ G1 = G4 := by omega
  have m17 : ¬ G1 = G7 := by omega
  have m20 : ¬ G2 = G0 := by omega
  have m21 : ¬ G2 = G1 := by omega
  have m23 : ¬ G2 = G3 := by omega
  have m24 : ¬ G2 = G4 := by omega
  have m27 : ¬ G2 = G7 := by omega
  have m30 : ¬ G3 = G0 := by omega
  have m31 : ¬ G3 = G1 := by omega
  have m32 : ¬ G3 = G2 := by omega
  have m34 : ¬ G3 = G4 := by omega
  have m37 : ¬ G3 = G7 := by omega
  have m40 : ¬ G4 = G0 := by omega
  have m41 : ¬ G4 = G1 := by omega
  have m42 : ¬ G4 = G2 := by omega
  have m43 : ¬ G4 = G3 := by omega
  have m47 : ¬ G4 = G7 := by omega
  have m70 : ¬ G7 = G0 := by omega
  have m71 : ¬ G7 = G1 := by omega
  have m72 : ¬ G7 = G2 := by omega
  have m73 : ¬ G7 = G3 := by omega
  have m74 : ¬ G7 = G4 := by omega
  have Q0 := Lib.hid q0
  have Q1 := Lib.hid q1
  have Q4 := Lib.hid q4
  have Q7 := Lib.hid (show RowAt W7 G7 27 #[.slice px s.now.items.length cx, .slice py s.now.blocks.length cy] from hnb)
  obtain ⟨⟨hH0, hH1, hH2, hH3, hH4, hH5⟩, ⟨hA0, hA1, hA2, hA3⟩, ⟨hP0, hP1, hP2, hP3, hP4, hP5⟩, ⟨hQ0, hQ1, hQ2, hQ3, hQ4⟩, ⟨hO0, hO1, hO2, hO3, hO4⟩, ⟨n0, n1⟩, hfH, hfP, hfQ, hfO⟩ := box_facts q0 q1 q2 q3 q4 Q7.out
  clear hal hb57 hnb hty6 hb6 hW7 hG7 htr hnt q0 q1 q2 q3 q4 HR0 HR1 HR2 HR3 HR4 HB5 HTY HDL HWR HS5 HW5 HG0 HG1 HG2 HG3 HG4 hGs hGN
  rw [HKD.out] at hA0
  have hs := step_kind1 (s := s) HKD.out
  have HST := Lib.hid hs
  clear hs
  cases hop : s.op with
  | true =>
    rw [hop] at hH4
    have hs2 : EM.step s a = ({ s with op := true }, EM.err 7) := by rw [HST.out, hop]; rfl
    have HS2 := Lib.hid hs2
    clear hs2 hop
    go_wp2
    go_region
    all_goals
      go_wp2
      refine ended (G2 := G2) (G3 := G3) rfl rfl rfl (RowAt.drew (row_fin m23 (by repeat (first | with_reducible exact HP2.out | (with_reducible refine RowAt.far ?_ (by assumption)))) (by repeat (first | with_reducible exact HP3.out | (with_reducible refine RowAt.far ?_ (by assumption)))) _ _ _ _ _ _ _ _ _ _ _).1) (RowAt.drew (row_fin m23 (by repeat (first | with_reducible exact HP2.out | (with_reducible refine RowAt.far ?_ (by assumption)))) (by repeat (first | with_reducible exact HP3.out | (with_reducible refine RowAt.far ?_ (by assumption)))) _ _ _ _ _ _ _ _ _ _ _).2) ?_
      exact acted (s := s) (t := { s with op := true }) (z := EM.err 7) (HS2.out) (bs := [G0, G1, G2, G3, G4]) (W7 := W7) (by repeat (first | with_reducible exact HTR.out | with_reducible refine Trk.drew ?_ | with_reducible refine Trk.set ?_ (by simp) _ _)) HTY7.out HDL7.out HWR7.out
  | false =>
    rw [hop] at hH4
    have hs2 : EM.step s a = ({ s with op := true }, EM.ok) := by rw [HST.out, hop]; rfl
    have HS2 := Lib.hid hs2
    clear hs2 hop
    go_wp2
    go_region
    all_goals
      go_wp2
      refine ended (G2 := G2) (G3 := G3) rfl rfl rfl (RowAt.drew (row_fin m23 (by repeat (first | with_reducible exact HP2.out | (with_reducible refine RowAt.far ?_ (by assumption)))) (by repeat (first | with_reducible exact HP3.out | (with_reducible refine RowAt.far ?_ (by assumption)))) _ _ _ _ _ _ _ _ _ _ _).1) (RowAt.drew (row_fin m23 (by repeat (first | with_reducible exact HP2.out | (with_reducible refine RowAt.far ?_ (by assumption)))) (by repeat (first | with_reducible exact HP3.out | (with_reducible refine RowAt.far ?_ (by assumption)))) _ _ _ _ _ _ _ _ _ _ _).2) ?_
      exact acted (s := s) (t := { s with op := true }) (z := EM.ok) (HS2.out) (bs := [G0, G1, G2, G3, G4]) (W7 := W7) (by repeat (first | with_reducible exact HTR.out | with_reducible refine Trk.drew ?_ | with_reducible refine Trk.set ?_ (by simp) _ _)) HTY7.out HDL7.out HWR7.out
end Go.Proofs.Ythjaanhkmfiajac

/- The document's ActedOf: one action. Conditions: the house is sound, the action's numbers are ints. -/
namespace Go.Proofs.Ythjaanhkmfiajac
open Go.RowKit LM EM

set_option maxRecDepth 100000 in
set_option maxHeartbeats 4000000 in
theorem Acted_Abort (n : Nat) (hv : Value) (s : EM.St) (a : EM.Act) (w : World) (h : HouseV w hv s) (hI : EM.Inv n s) (hok : ActOk a) (hkd : a.kind = 5) :
    Calls Try.prog 12 #[hv, .agg #[.int .i64 a.kind, .int .i64 a.block, .string a.data, .int .i64 a.keep]] w (ActedRet s a w) := by
  obtain ⟨bi, bb, dv, lv, rfl, hty, hdl, hwr⟩ := h
  obtain ⟨pa, ca, pb, cb, rfl, rfl⟩ := hty.slices
  obtain ⟨pd, cd, rfl, hdc, hd47⟩ := hdl.slice
  obtain ⟨pl, cl, rfl⟩ := hwr.slice
  have hnw := hI.now
  obtain ⟨G0, hG0⟩ : ∃ G, G = w.heap.size := ⟨_, rfl⟩
  obtain ⟨G1, hG1⟩ : ∃ G, G = w.heap.size + 1 := ⟨_, rfl⟩
  obtain ⟨G2, hG2⟩ : ∃ G, G = w.heap.size + 1 + 1 := ⟨_, rfl⟩
  obtain ⟨G3, hG3⟩ : ∃ G, G = w.heap.size + 1 + 1 + 1 := ⟨_, rfl⟩
  obtain ⟨G4, hG4⟩ : ∃ G, G = w.heap.size + 1 + 1 + 1 + 1 := ⟨_, rfl⟩
  obtain ⟨W5, hW5⟩ : ∃ W, W = boxes w (.slice pa s.base.items.length ca) (.slice pb s.base.blocks.length cb) (.slice pd s.deals.length cd) (.int .i64 (s.last : Int)) (.bool s.op) (.slice pl s.l.length cl) (.int .i64 a.kind) (.int .i64 a.block) (.string a.data) (.int .i64 a.keep) := ⟨_, rfl⟩
  obtain ⟨r0, r1, r2, r3, r4, hs5, hb5⟩ := boxes_at hW5
  rw [← hG0] at r0
  rw [← hG1] at r1
  rw [← hG2] at r2
  rw [← hG3] at r3
  rw [← hG4] at r4
  have HKD := Lib.hid hkd
  have HG0 := Lib.hid hG0.symm
  have HG1 := Lib.hid hG1.symm
  have HG2 := Lib.hid hG2.symm
  have HG3 := Lib.hid hG3.symm
  have HG4 := Lib.hid hG4.symm
  have HW5 := Lib.hid hW5.symm
  have HR0 := Lib.hid r0
  have HR1 := Lib.hid r1
  have HR2 := Lib.hid r2
  have HR3 := Lib.hid r3
  have HR4 := Lib.hid r4
  have HB5 := Lib.hid hb5
  have HTY := Lib.hid (hty.keep hb5)
  have HDL := Lib.hid (hdl.bx (.of_below hb5))
  have HWR := Lib.hid (hwr.bx (.of_below hb5))
  have HI := Lib.hid hI
  have HNW := Lib.hid hnw
  have HOK := Lib.hid hok
  have HS5 := Lib.hid hs5
  have hH0 := r0.cell 0
  have hH1 := r0.cell 1
  have hH2 := r0.cell 2
  have hH3 := r0.cell 3
  have hH4 := r0.cell 4
  have hH5 := r0.cell 5
  simp only [List.getElem?_toArray, List.getElem?_cons_zero, List.getElem?_cons_succ] at hH0 hH1 hH2 hH3 hH4 hH5
  clear hty hdl hwr hnw hI hok hkd hW5 hG0 hG1 hG2 hG3 hG4 hs5 hb5 r0 r1 r2 r3 r4
  go_enter Try.func12, Try.ntmps12
  go_upto_region 2 with (fail)
  change Code.wp _ _ _ _ (boxes w (.slice pa s.base.items.length ca) (.slice pb s.base.blocks.length cb) (.slice pd s.deals.length cd) (.int .i64 (s.last : Int)) (.bool s.op) (.slice pl s.l.length cl) (.int .i64 a.kind) (.int .i64 a.block) (.string a.data) (.int .i64 a.keep))
  rw [HW5.out, HG4.out, HG3.out, HG2.out, HG1.out, HG0.out]
  go_upto_region 3 with (go_at_call 14; refine (Now_any _ s _ ⟨_, _, _, _, rfl, HTY.out, HDL.out, HWR.out⟩ HI.out.base HI.out.each).mono ?_; rintro e w6 ⟨x6, y6, rfl, hty6, hb6⟩; obtain ⟨px, cx, py, cy, rfl, rfl⟩ := hty6.slices)
  obtain ⟨G7, hG7⟩ : ∃ G, G = w6.heap.size := ⟨_, rfl⟩
  obtain ⟨W7, hW7⟩ : ∃ W, W = w6.alloc (.cells #[.slice px s.now.items.length cx, .slice py s.now.blocks.length cy] 27) := ⟨_, rfl⟩
  rw [← hW7, ← hG7]
  have hal : Below w6.heap.size w6 W7 := by rw [hW7]; exact below_alloc (Below.refl _ _) _
  have hb57 : Below W5.heap.size W5 W7 := below_then hb6 hal
  have hnb : VBox W7 G7 (.slice px s.now.items.length cx) (.slice py s.now.blocks.length cy) := by rw [hW7, hG7]; exact VBox.new _ _ _
  have hnt : VolTy W7 (.slice px s.now.items.length cx) (.slice py s.now.blocks.length cy) s.now := hty6.keep hal
  have hGN : G4 < G7 := by rw [hG7, ← HG4.out]; have := hb6.size; have := HS5.out; omega
  have hGs : w.heap.size ≤ G0 ∧ w.heap.size ≤ G1 ∧ w.heap.size ≤ G2 ∧ w.heap.size ≤ G3 ∧ w.heap.size ≤ G4 ∧ G0 < G1 ∧ G1 < G2 ∧ G2 < G3 ∧ G3 < G4 := by have := HG0.out; have := HG1.out; have := HG2.out; have := HG3.out; have := HG4.out; omega
  have htr := Trk.first HB5.out hb57 ⟨hGs.1, hGs.2.1, hGs.2.2.1, hGs.2.2.2.1, hGs.2.2.2.2.1⟩ HR0.out HR1.out HR2.out HR3.out HR4.out
  obtain ⟨q0, q1, q2, q3, q4⟩ : RowAt W7 G0 _ _ ∧ RowAt W7 G1 _ _ ∧ RowAt W7 G2 _ _ ∧ RowAt W7 G3 _ _ ∧ RowAt W7 G4 _ _ := ⟨HR0.out.past hb57, HR1.out.past hb57, HR2.out.past hb57, HR3.out.past hb57, HR4.out.past hb57⟩
  have HTR := Lib.hid htr
  have HP2 := Lib.hid q2
  have HP3 := Lib.hid q3
  have HNT := Lib.hid hnt
  have HTY7 := Lib.hid (HTY.out.keep hb57)
  have HDL7 := Lib.hid (HDL.out.bx (.of_below hb57))
  have HWR7 := Lib.hid (HWR.out.bx (.of_below hb57))
  clear hH0 hH1 hH2 hH3 hH4 hH5
  have m01 : ¬ G0 = G1 := by omega
  have m02 : ¬ G0 = G2 := by omega
  have m03 : ¬ G0 = G3 := by omega
  have m04 : ¬ G0 = G4 := by omega
  have m07 : ¬ G0 = G7 := by omega
  have m10 : ¬ G1 = G0 := by omega
  have m12 : ¬ G1 = G2 := by omega
  have m13 : ¬ G1 = G3 := by omega
  have m14 : ¬ G1 = G4 := by omega
  have m17 : ¬ G1 = G7 := by omega
  have m20 : ¬ G2 = G0 := by omega
  have m21 : ¬ G2 = G1 := by omega
  have m23 : ¬ G2 = G3 := by omega
  have m24 : ¬ G2 = G4 := by omega
  have m27 : ¬ G2 = G7 := by omega
  have m30 : ¬ G3 = G0 := by omega
  have m31 : ¬ G3 = G1 := by omega
  have m32 : ¬ G3 = G2 := by omega
  have m34 : ¬ G3 = G4 := by omega
  have m37 : ¬ G3 = G7 := by omega
  have m40 : ¬ G4 = G0 := by omega
  have m41 : ¬ G4 = G1 := by omega
  have m42 : ¬ G4 = G2 := by omega
  have m43 : ¬ G4 = G3 := by omega
  have m47 : ¬ G4 = G7 := by omega
  have m70 : ¬ G7 = G0 := by omega
  have m71 : ¬ G7 = G1 := by omega
  have m72 : ¬ G7 = G2 := by omega
  have m73 : ¬ G7 = G3 := by omega
  have m74 : ¬ G7 = G4 := by omega
  have Q0 := Lib.hid q0
  have Q1 := Lib.hid q1
  have Q4 := Lib.hid q4
  have Q7 := Lib.hid (show RowAt W7 G7 27 #[.slice px s.now.items.length cx, .slice py s.now.blocks.length cy] from hnb)
  obtain ⟨⟨hH0, hH1, hH2, hH3, hH4, hH5⟩, ⟨hA0, hA1, hA2, hA3⟩, ⟨hP0, hP1, hP2, hP3, hP4, hP5⟩, ⟨hQ0, hQ1, hQ2, hQ3, hQ4⟩, ⟨hO0, hO1, hO2, hO3, hO4⟩, ⟨n0, n1⟩, hfH, hfP, hfQ, hfO⟩ := box_facts q0 q1 q2 q3 q4 Q7.out
  clear hal hb57 hnb hty6 hb6 hW7 hG7 htr hnt q0 q1 q2 q3 q4 HR0 HR1 HR2 HR3 HR4 HB5 HTY HDL HWR HS5 HW5 HG0 HG1 HG2 HG3 HG4 hGs hGN
  rw [HKD.out] at hA0
  have hs := step_kind5 (s := s) HKD.out
  have HST := Lib.hid hs
  clear hs
  cases hop : s.op with
  | true =>
    rw [hop] at hH4
    have hs2 : EM.step s a = ({ s with op := false, l := [] }, EM.ok) := by rw [HST.out, hop]; rfl
    have HS2 := Lib.hid hs2
    clear hs2 hop
    go_wp2
    go_region
    all_goals
      go_wp2
      refine ended (G2 := G2) (G3 := G3) rfl rfl rfl (RowAt.drew (row_fin m23 (by repeat (first | with_reducible exact HP2.out | (with_reducible refine RowAt.far ?_ (by assumption)))) (by repeat (first | with_reducible exact HP3.out | (with_reducible refine RowAt.far ?_ (by assumption)))) _ _ _ _ _ _ _ _ _ _ _).1) (RowAt.drew (row_fin m23 (by repeat (first | with_reducible exact HP2.out | (with_reducible refine RowAt.far ?_ (by assumption)))) (by repeat (first | with_reducible exact HP3.out | (with_reducible refine RowAt.far ?_ (by assumption)))) _ _ _ _ _ _ _ _ _ _ _).2) ?_
      exact acted (s := s) (t := { s with op := false, l := [] }) (z := EM.ok) (HS2.out) (bs := [G0, G1, G2, G3, G4]) (W7 := W7) (by repeat (first | with_reducible exact HTR.out | with_reducible refine Trk.drew ?_ | with_reducible refine Trk.set ?_ (by simp) _ _)) HTY7.out HDL7.out (InnerAt.nil W7)
  | false =>
    rw [hop] at hH4
    have hs2 : EM.step s a = ({ s with op := false, l := [] }, EM.err 7) := by rw [HST.out, hop]; rfl
    have HS2 := Lib.hid hs2
    clear hs2 hop
    go_wp2
    go_region
    all_goals
      go_wp2
      refine ended (G2 := G2) (G3 := G3) rfl rfl rfl (RowAt.drew (row_fin m23 (by repeat (first | with_reducible exact HP2.out | (with_reducible refine RowAt.far ?_ (by assumption)))) (by repeat (first | with_reducible exact HP3.out | (with_reducible refine RowAt.far ?_ (by assumption)))) _ _ _ _ _ _ _ _ _ _ _).1) (RowAt.drew (row_fin m23 (by repeat (first | with_reducible exact HP2.out | (with_reducible refine RowAt.far ?_ (by assumption)))) (by repeat (first | with_reducible exact HP3.out | (with_reducible refine RowAt.far ?_ (by assumption)))) _ _ _ _ _ _ _ _ _ _ _).2) ?_
      exact acted (s := s) (t := { s with op := false, l := [] }) (z := EM.err 7) (HS2.out) (bs := [G0, G1, G2, G3, G4]) (W7 := W7) (by repeat (first | with_reducible exact HTR.out | with_reducible refine Trk.drew ?_ | with_reducible refine Trk.set ?_ (by simp) _ _)) HTY7.out HDL7.out (InnerAt.nil W7)
end Go.Proofs.Ythjaanhkmfiajac

/- The document's ActedOf: one action. Conditions: the house is sound, the action's numbers are ints. -/
namespace Go.Proofs.Ythjaanhkmfiajac
open Go.RowKit LM EM

set_option maxRecDepth 100000 in
set_option maxHeartbeats 4000000 in
theorem Acted_Flush (n : Nat) (hv : Value) (s : EM.St) (a : EM.Act) (w : World) (h : HouseV w hv s) (hI : EM.Inv n s) (hok : ActOk a) (hkd : a.kind = 6) :
    Calls Try.prog 12 #[hv, .agg #[.int .i64 a.kind, .int .i64 a.block, .string a.data, .int .i64 a.keep]] w (ActedRet s a w) := by
  obtain ⟨bi, bb, dv, lv, rfl, hty, hdl, hwr⟩ := h
  obtain ⟨pa, ca, pb, cb, rfl, rfl⟩ := hty.slices
  obtain ⟨pd, cd, rfl, hdc, hd47⟩ := hdl.slice
  obtain ⟨pl, cl, rfl⟩ := hwr.slice
  have hnw := hI.now
  obtain ⟨G0, hG0⟩ : ∃ G, G = w.heap.size := ⟨_, rfl⟩
  obtain ⟨G1, hG1⟩ : ∃ G, G = w.heap.size + 1 := ⟨_, rfl⟩
  obtain ⟨G2, hG2⟩ : ∃ G, G = w.heap.size + 1 + 1 := ⟨_, rfl⟩
  obtain ⟨G3, hG3⟩ : ∃ G, G = w.heap.size + 1 + 1 + 1 := ⟨_, rfl⟩
  obtain ⟨G4, hG4⟩ : ∃ G, G = w.heap.size + 1 + 1 + 1 + 1 := ⟨_, rfl⟩
  obtain ⟨W5, hW5⟩ : ∃ W, W = boxes w (.slice pa s.base.items.length ca) (.slice pb s.base.blocks.length cb) (.slice pd s.deals.length cd) (.int .i64 (s.last : Int)) (.bool s.op) (.slice pl s.l.length cl) (.int .i64 a.kind) (.int .i64 a.block) (.string a.data) (.int .i64 a.keep) := ⟨_, rfl⟩
  obtain ⟨r0, r1, r2, r3, r4, hs5, hb5⟩ := boxes_at hW5
  rw [← hG0] at r0
  rw [← hG1] at r1
  rw [← hG2] at r2
  rw [← hG3] at r3
  rw [← hG4] at r4
  have HKD := Lib.hid hkd
  have HG0 := Lib.hid hG0.symm
  have HG1 := Lib.hid hG1.symm
  have HG2 := Lib.hid hG2.symm
  have HG3 := Lib.hid hG3.symm
  have HG4 := Lib.hid hG4.symm
  have HW5 := Lib.hid hW5.symm
  have HR0 := Lib.hid r0
  have HR1 := Lib.hid r1
  have HR2 := Lib.hid r2
  have HR3 := Lib.hid r3
  have HR4 := Lib.hid r4
  have HB5 := Lib.hid hb5
  have HTY := Lib.hid (hty.keep hb5)
  have HDL := Lib.hid (hdl.bx (.of_below hb5))
  have HWR := Lib.hid (hwr.bx (.of_below hb5))
  have HI := Lib.hid hI
  have HNW := Lib.hid hnw
  have HOK := Lib.hid hok
  have HS5 := Lib.hid hs5
  have hH0 := r0.cell 0
  have hH1 := r0.cell 1
  have hH2 := r0.cell 2
  have hH3 := r0.cell 3
  have hH4 := r0.cell 4
  have hH5 := r0.cell 5
  simp only [List.getElem?_toArray, List.getElem?_cons_zero, List.getElem?_cons_succ] at hH0 hH1 hH2 hH3 hH4 hH5
  clear hty hdl hwr hnw hI hok hkd hW5 hG0 hG1 hG2 hG3 hG4 hs5 hb5 r0 r1 r2 r3 r4
  go_enter Try.func12, Try.ntmps12
  go_upto_region 2 with (fail)
  change Code.wp _ _ _ _ (boxes w (.slice pa s.base.items.length ca) (.slice pb s.base.blocks.length cb) (.slice pd s.deals.length cd) (.int .i64 (s.last : Int)) (.bool s.op) (.slice pl s.l.length cl) (.int .i64 a.kind) (.int .i64 a.block) (.string a.data) (.int .i64 a.keep))
  rw [HW5.out, HG4.out, HG3.out, HG2.out, HG1.out, HG0.out]
  go_upto_region 3 with (go_at_call 14; refine (Now_any _ s _ ⟨_, _, _, _, rfl, HTY.out, HDL.out, HWR.out⟩ HI.out.base HI.out.each).mono ?_; rintro e w6 ⟨x6, y6, rfl, hty6, hb6⟩; obtain ⟨px, cx, py, cy, rfl, rfl⟩ := hty6.slices)
  obtain ⟨G7, hG7⟩ : ∃ G, G = w6.heap.size := ⟨_, rfl⟩
  obtain ⟨W7, hW7⟩ : ∃ W, W = w6.alloc (.cells #[.slice px s.now.items.length cx, .slice py s.now.blocks.length cy] 27) := ⟨_, rfl⟩
  rw [← hW7, ← hG7]
  have hal : Below w6.heap.size w6 W7 := by rw [hW7]; exact below_alloc (Below.refl _ _) _
  have hb57 : Below W5.heap.size W5 W7 := below_then hb6 hal
  have hnb : VBox W7 G7 (.slice px s.now.items.length cx) (.slice py s.now.blocks.length cy) := by rw [hW7, hG7]; exact VBox.new _ _ _
  have hnt : VolTy W7 (.slice px s.now.items.length cx) (.slice py s.now.blocks.length cy) s.now := hty6.keep hal
  have hGN : G4 < G7 := by rw [hG7, ← HG4.out]; have := hb6.size; have := HS5.out; omega
  have hGs : w.heap.size ≤ G0 ∧ w.heap.size ≤ G1 ∧ w.heap.size ≤ G2 ∧ w.heap.size ≤ G3 ∧ w.heap.size ≤ G4 ∧ G0 < G1 ∧ G1 < G2 ∧ G2 < G3 ∧ G3 < G4 := by have := HG0.out; have := HG1.out; have := HG2.out; have := HG3.out; have := HG4.out; omega
  have htr := Trk.first HB5.out hb57 ⟨hGs.1, hGs.2.1, hGs.2.2.1, hGs.2.2.2.1, hGs.2.2.2.2.1⟩ HR0.out HR1.out HR2.out HR3.out HR4.out
  obtain ⟨q0, q1, q2, q3, q4⟩ : RowAt W7 G0 _ _ ∧ RowAt W7 G1 _ _ ∧ RowAt W7 G2 _ _ ∧ RowAt W7 G3 _ _ ∧ RowAt W7 G4 _ _ := ⟨HR0.out.past hb57, HR1.out.past hb57, HR2.out.past hb57, HR3.out.past hb57, HR4.out.past hb57⟩
  have HTR := Lib.hid htr
  have HP2 := Lib.hid q2
  have HP3 := Lib.hid q3
  have HNT := Lib.hid hnt
  have HTY7 := Lib.hid (HTY.out.keep hb57)
  have HDL7 := Lib.hid (HDL.out.bx (.of_below hb57))
  have HWR7 := Lib.hid (HWR.out.bx (.of_below hb57))
  clear hH0 hH1 hH2 hH3 hH4 hH5
  have m01 : ¬ G0 = G1 := by omega
  have m02 : ¬ G0 = G2 := by omega
  have m03 : ¬ G0 = G3 := by omega
  have m04 : ¬ G0 = G4 := by omega
  have m07 : ¬ G0 = G7 := by omega
  have m10 : ¬ G1 = G0 := by omega
  have m12 : ¬ G1 = G2 := by omega
  have m13 : ¬ G1 = G3 := by omega
  have m14 : ¬ G1 = G4 := by omega
  have m17 : ¬ G1 = G7 := by omega
  have m20 : ¬ G2 = G0 := by omega
  have m21 : ¬ G2 = G1 := by omega
  have m23 : ¬ G2 = G3 := by omega
  have m24 : ¬ G2 = G4 := by omega
  have m27 : ¬ G2 = G7 := by omega
  have m30 : ¬ G3 = G0 := by omega
  have m31 : ¬ G3 = G1 := by omega
  have m32 : ¬ G3 = G2 := by omega
  have m34 : ¬ G3 = G4 := by omega
  have m37 : ¬ G3 = G7 := by omega
  have m40 : ¬ G4 = G0 := by omega
  have m41 : ¬ G4 = G1 := by omega
  have m42 : ¬ G4 = G2 := by omega
  have m43 : ¬ G4 = G3 := by omega
  have m47 : ¬ G4 = G7 := by omega
  have m70 : ¬ G7 = G0 := by omega
  have m71 : ¬ G7 = G1 := by omega
  have m72 : ¬ G7 = G2 := by omega
  have m73 : ¬ G7 = G3 := by omega
  have m74 : ¬ G7 = G4 := by omega
  have Q0 := Lib.hid q0
  have Q1 := Lib.hid q1
  have Q4 := Lib.hid q4
  have Q7 := Lib.hid (show RowAt W7 G7 27 #[.slice px s.now.items.length cx, .slice py s.now.blocks.length cy] from hnb)
  obtain ⟨⟨hH0, hH1, hH2, hH3, hH4, hH5⟩, ⟨hA0, hA1, hA2, hA3⟩, ⟨hP0, hP1, hP2, hP3, hP4, hP5⟩, ⟨hQ0, hQ1, hQ2, hQ3, hQ4⟩, ⟨hO0, hO1, hO2, hO3, hO4⟩, ⟨n0, n1⟩, hfH, hfP, hfQ, hfO⟩ := box_facts q0 q1 q2 q3 q4 Q7.out
  clear hal hb57 hnb hty6 hb6 hW7 hG7 htr hnt q0 q1 q2 q3 q4 HR0 HR1 HR2 HR3 HR4 HB5 HTY HDL HWR HS5 HW5 HG0 HG1 HG2 HG3 HG4 hGs hGN
  rw [HKD.out] at hA0
  have HST := Lib.hid (step_kind6 (s := s) HKD.out)
  go_wp2
  go_region
  all_goals
    go_wp2
    refine ended (G2 := G2) (G3 := G3) rfl rfl rfl (RowAt.drew (row_fin m23 (by repeat (first | with_reducible exact HP2.out | (with_reducible refine RowAt.far ?_ (by assumption)))) (by repeat (first | with_reducible exact HP3.out | (with_reducible refine RowAt.far ?_ (by assumption)))) _ _ _ _ _ _ _ _ _ _ _).1) (RowAt.drew (row_fin m23 (by repeat (first | with_reducible exact HP2.out | (with_reducible refine RowAt.far ?_ (by assumption)))) (by repeat (first | with_reducible exact HP3.out | (with_reducible refine RowAt.far ?_ (by assumption)))) _ _ _ _ _ _ _ _ _ _ _).2) ?_
    exact acted (s := s) (t := { s with last := s.deals.length }) (z := EM.ok) (HST.out) (bs := [G0, G1, G2, G3, G4]) (W7 := W7) (by repeat (first | with_reducible exact HTR.out | with_reducible refine Trk.drew ?_ | with_reducible refine Trk.set ?_ (by simp) _ _)) HTY7.out HDL7.out HWR7.out
end Go.Proofs.Ythjaanhkmfiajac

/- The document's ActedOf: one action. Conditions: the house is sound, the action's numbers are ints. -/
namespace Go.Proofs.Ythjaanhkmfiajac
open Go.RowKit LM EM

set_option maxRecDepth 100000 in
set_option maxHeartbeats 4000000 in
theorem Acted_Mark (n : Nat) (hv : Value) (s : EM.St) (a : EM.Act) (w : World) (h : HouseV w hv s) (hI : EM.Inv n s) (hok : ActOk a) (hkd : a.kind = 8) :
    Calls Try.prog 12 #[hv, .agg #[.int .i64 a.kind, .int .i64 a.block, .string a.data, .int .i64 a.keep]] w (ActedRet s a w) := by
  obtain ⟨bi, bb, dv, lv, rfl, hty, hdl, hwr⟩ := h
  obtain ⟨pa, ca, pb, cb, rfl, rfl⟩ := hty.slices
  obtain ⟨pd, cd, rfl, hdc, hd47⟩ := hdl.slice
  obtain ⟨pl, cl, rfl⟩ := hwr.slice
  have hnw := hI.now
  obtain ⟨G0, hG0⟩ : ∃ G, G = w.heap.size := ⟨_, rfl⟩
  obtain ⟨G1, hG1⟩ : ∃ G, G = w.heap.size + 1 := ⟨_, rfl⟩
  obtain ⟨G2, hG2⟩ : ∃ G, G = w.heap.size + 1 + 1 := ⟨_, rfl⟩
  obtain ⟨G3, hG3⟩ : ∃ G, G = w.heap.size + 1 + 1 + 1 := ⟨_, rfl⟩
  obtain ⟨G4, hG4⟩ : ∃ G, G = w.heap.size + 1 + 1 + 1 + 1 := ⟨_, rfl⟩
  obtain ⟨W5, hW5⟩ : ∃ W, W = boxes w (.slice pa s.base.items.length ca) (.slice pb s.base.blocks.length cb) (.slice pd s.deals.length cd) (.int .i64 (s.last : Int)) (.bool s.op) (.slice pl s.l.length cl) (.int .i64 a.kind) (.int .i64 a.block) (.string a.data) (.int .i64 a.keep) := ⟨_, rfl⟩
  obtain ⟨r0, r1, r2, r3, r4, hs5, hb5⟩ := boxes_at hW5
  rw [← hG0] at r0
  rw [← hG1] at r1
  rw [← hG2] at r2
  rw [← hG3] at r3
  rw [← hG4] at r4
  have HKD := Lib.hid hkd
  have HG0 := Lib.hid hG0.symm
  have HG1 := Lib.hid hG1.symm
  have HG2 := Lib.hid hG2.symm
  have HG3 := Lib.hid hG3.symm
  have HG4 := Lib.hid hG4.symm
  have HW5 := Lib.hid hW5.symm
  have HR0 := Lib.hid r0
  have HR1 := Lib.hid r1
  have HR2 := Lib.hid r2
  have HR3 := Lib.hid r3
  have HR4 := Lib.hid r4
  have HB5 := Lib.hid hb5
  have HTY := Lib.hid (hty.keep hb5)
  have HDL := Lib.hid (hdl.bx (.of_below hb5))
  have HWR := Lib.hid (hwr.bx (.of_below hb5))
  have HI := Lib.hid hI
  have HNW := Lib.hid hnw
  have HOK := Lib.hid hok
  have HS5 := Lib.hid hs5
  have hH0 := r0.cell 0
  have hH1 := r0.cell 1
  have hH2 := r0.cell 2
  have hH3 := r0.cell 3
  have hH4 := r0.cell 4
  have hH5 := r0.cell 5
  simp only [List.getElem?_toArray, List.getElem?_cons_zero, List.getElem?_cons_succ] at hH0 hH1 hH2 hH3 hH4 hH5
  clear hty hdl hwr hnw hI hok hkd hW5 hG0 hG1 hG2 hG3 hG4 hs5 hb5 r0 r1 r2 r3 r4
  go_enter Try.func12, Try.ntmps12
  go_upto_region 2 with (fail)
  change Code.wp _ _ _ _ (boxes w (.slice pa s.base.items.length ca) (.slice pb s.base.blocks.length cb) (.slice pd s.deals.length cd) (.int .i64 (s.last : Int)) (.bool s.op) (.slice pl s.l.length cl) (.int .i64 a.kind) (.int .i64 a.block) (.string a.data) (.int .i64 a.keep))
  rw [HW5.out, HG4.out, HG3.out, HG2.out, HG1.out, HG0.out]
  go_upto_region 3 with (go_at_call 14; refine (Now_any _ s _ ⟨_, _, _, _, rfl, HTY.out, HDL.out, HWR.out⟩ HI.out.base HI.out.each).mono ?_; rintro e w6 ⟨x6, y6, rfl, hty6, hb6⟩; obtain ⟨px, cx, py, cy, rfl, rfl⟩ := hty6.slices)
  obtain ⟨G7, hG7⟩ : ∃ G, G = w6.heap.size := ⟨_, rfl⟩
  obtain ⟨W7, hW7⟩ : ∃ W, W = w6.alloc (.cells #[.slice px s.now.items.length cx, .slice py s.now.blocks.length cy] 27) := ⟨_, rfl⟩
  rw [← hW7, ← hG7]
  have hal : Below w6.heap.size w6 W7 := by rw [hW7]; exact below_alloc (Below.refl _ _) _
  have hb57 : Below W5.heap.size W5 W7 := below_then hb6 hal
  have hnb : VBox W7 G7 (.slice px s.now.items.length cx) (.slice py s.now.blocks.length cy) := by rw [hW7, hG7]; exact VBox.new _ _ _
  have hnt : VolTy W7 (.slice px s.now.items.length cx) (.slice py s.now.blocks.length cy) s.now := hty6.keep hal
  have hGN : G4 < G7 := by rw [hG7, ← HG4.out]; have := hb6.size; have := HS5.out; omega
  have hGs : w.heap.size ≤ G0 ∧ w.heap.size ≤ G1 ∧ w.heap.size ≤ G2 ∧ w.heap.size ≤ G3 ∧ w.heap.size ≤ G4 ∧ G0 < G1 ∧ G1 < G2 ∧ G2 < G3 ∧ G3 < G4 := by have := HG0.out; have := HG1.out; have := HG2.out; have := HG3.out; have := HG4.out; omega
  have htr := Trk.first HB5.out hb57 ⟨hGs.1, hGs.2.1, hGs.2.2.1, hGs.2.2.2.1, hGs.2.2.2.2.1⟩ HR0.out HR1.out HR2.out HR3.out HR4.out
  obtain ⟨q0, q1, q2, q3, q4⟩ : RowAt W7 G0 _ _ ∧ RowAt W7 G1 _ _ ∧ RowAt W7 G2 _ _ ∧ RowAt W7 G3 _ _ ∧ RowAt W7 G4 _ _ := ⟨HR0.out.past hb57, HR1.out.past hb57, HR2.out.past hb57, HR3.out.past hb57, HR4.out.past hb57⟩
  have HTR := Lib.hid htr
  have HP2 := Lib.hid q2
  have HP3 := Lib.hid q3
  have HNT := Lib.hid hnt
  have HTY7 := Lib.hid (HTY.out.keep hb57)
  have HDL7 := Lib.hid (HDL.out.bx (.of_below hb57))
  have HWR7 := Lib.hid (HWR.out.bx (.of_below hb57))
  clear hH0 hH1 hH2 hH3 hH4 hH5
  have m01 : ¬ G0 = G1 := by omega
  have m02 : ¬ G0 = G2 := by omega
  have m03 : ¬ G0 = G3 := by omega
  have m04 : ¬ G0 = G4 := by omega
  have m07 : ¬ G0 = G7 := by omega
  have m10 : ¬ G1 = G0 := by omega
  have m12 : ¬ G1 = G2 := by omega
  have m13 : ¬ G1 = G3 := by omega
  have m14 : ¬ G1 = G4 := by omega
  have m17 : ¬ G1 = G7 := by omega
  have m20 : ¬ G2 = G0 := by omega
  have m21 : ¬ G2 = G1 := by omega
  have m23 : ¬ G2 = G3 := by omega
  have m24 : ¬ G2 = G4 := by omega
  have m27 : ¬ G2 = G7 := by omega
  have m30 : ¬ G3 = G0 := by omega
  have m31 : ¬ G3 = G1 := by omega
  have m32 : ¬ G3 = G2 := by omega
  have m34 : ¬ G3 = G4 := by omega
  have m37 : ¬ G3 = G7 := by omega
  have m40 : ¬ G4 = G0 := by omega
  have m41 : ¬ G4 = G1 := by omega
  have m42 : ¬ G4 = G2 := by omega
  have m43 : ¬ G4 = G3 := by omega
  have m47 : ¬ G4 = G7 := by omega
  have m70 : ¬ G7 = G0 := by omega
  have m71 : ¬ G7 = G1 := by omega
  have m72 : ¬ G7 = G2 := by omega
  have m73 : ¬ G7 = G3 := by omega
  have m74 : ¬ G7 = G4 := by omega
  have Q0 := Lib.hid q0
  have Q1 := Lib.hid q1
  have Q4 := Lib.hid q4
  have Q7 := Lib.hid (show RowAt W7 G7 27 #[.slice px s.now.items.length cx, .slice py s.now.blocks.length cy] from hnb)
  obtain ⟨⟨hH0, hH1, hH2, hH3, hH4, hH5⟩, ⟨hA0, hA1, hA2, hA3⟩, ⟨hP0, hP1, hP2, hP3, hP4, hP5⟩, ⟨hQ0, hQ1, hQ2, hQ3, hQ4⟩, ⟨hO0, hO1, hO2, hO3, hO4⟩, ⟨n0, n1⟩, hfH, hfP, hfQ, hfO⟩ := box_facts q0 q1 q2 q3 q4 Q7.out
  clear hal hb57 hnb hty6 hb6 hW7 hG7 htr hnt q0 q1 q2 q3 q4 HR0 HR1 HR2 HR3 HR4 HB5 HTY HDL HWR HS5 HW5 HG0 HG1 HG2 HG3 HG4 hGs hGN
  rw [HKD.out] at hA0
  have HST := Lib.hid (step_kind8 (s := s) HKD.out)
  go_wp2
  go_region
  all_goals
    go_wp2
    refine ended (G2 := G2) (G3 := G3) rfl rfl rfl (RowAt.drew (row_fin m23 (by repeat (first | with_reducible exact HP2.out | (with_reducible refine RowAt.far ?_ (by assumption)))) (by repeat (first | with_reducible exact HP3.out | (with_reducible refine RowAt.far ?_ (by assumption)))) _ _ _ _ _ _ _ _ _ _ _).1) (RowAt.drew (row_fin m23 (by repeat (first | with_reducible exact HP2.out | (with_reducible refine RowAt.far ?_ (by assumption)))) (by repeat (first | with_reducible exact HP3.out | (with_reducible refine RowAt.far ?_ (by assumption)))) _ _ _ _ _ _ _ _ _ _ _).2) ?_
    exact acted (s := s) (t := { s with base := s.now, deals := [], last := 0 }) (z := EM.ok) (HST.out) (bs := [G0, G1, G2, G3, G4]) (W7 := W7) (by repeat (first | with_reducible exact HTR.out | with_reducible refine Trk.drew ?_ | with_reducible refine Trk.set ?_ (by simp) _ _)) HNT.out (DealsT.nil W7) HWR7.out
end Go.Proofs.Ythjaanhkmfiajac

/- The document's ActedOf: one action. Conditions: the house is sound, the action's numbers are ints. -/
namespace Go.Proofs.Ythjaanhkmfiajac
open Go.RowKit LM EM

set_option maxRecDepth 100000 in
set_option maxHeartbeats 4000000 in
theorem Acted_Odd (n : Nat) (hv : Value) (s : EM.St) (a : EM.Act) (w : World) (h : HouseV w hv s) (hI : EM.Inv n s) (hok : ActOk a) (hkd : a.kind < 1 ∨ 9 < a.kind) :
    Calls Try.prog 12 #[hv, .agg #[.int .i64 a.kind, .int .i64 a.block, .string a.data, .int .i64 a.keep]] w (ActedRet s a w) := by
  obtain ⟨bi, bb, dv, lv, rfl, hty, hdl, hwr⟩ := h
  obtain ⟨pa, ca, pb, cb, rfl, rfl⟩ := hty.slices
  obtain ⟨pd, cd, rfl, hdc, hd47⟩ := hdl.slice
  obtain ⟨pl, cl, rfl⟩ := hwr.slice
  have hnw := hI.now
  obtain ⟨G0, hG0⟩ : ∃ G, G = w.heap.size := ⟨_, rfl⟩
  obtain ⟨G1, hG1⟩ : ∃ G, G = w.heap.size + 1 := ⟨_, rfl⟩
  obtain ⟨G2, hG2⟩ : ∃ G, G = w.heap.size + 1 + 1 := ⟨_, rfl⟩
  obtain ⟨G3, hG3⟩ : ∃ G, G = w.heap.size + 1 + 1 + 1 := ⟨_, rfl⟩
  obtain ⟨G4, hG4⟩ : ∃ G, G = w.heap.size + 1 + 1 + 1 + 1 := ⟨_, rfl⟩
  obtain ⟨W5, hW5⟩ : ∃ W, W = boxes w (.slice pa s.base.items.length ca) (.slice pb s.base.blocks.length cb) (.slice pd s.deals.length cd) (.int .i64 (s.last : Int)) (.bool s.op) (.slice pl s.l.length cl) (.int .i64 a.kind) (.int .i64 a.block) (.string a.data) (.int .i64 a.keep) := ⟨_, rfl⟩
  obtain ⟨r0, r1, r2, r3, r4, hs5, hb5⟩ := boxes_at hW5
  rw [← hG0] at r0
  rw [← hG1] at r1
  rw [← hG2] at r2
  rw [← hG3] at r3
  rw [← hG4] at r4
  have HKD := Lib.hid hkd
  have HG0 := Lib.hid hG0.symm
  have HG1 := Lib.hid hG1.symm
  have HG2 := Lib.hid hG2.symm
  have HG3 := Lib.hid hG3.symm
  have HG4 := Lib.hid hG4.symm
  have HW5 := Lib.hid hW5.symm
  have HR0 := Lib.hid r0
  have HR1 := Lib.hid r1
  have HR2 := Lib.hid r2
  have HR3 := Lib.hid r3
  have HR4 := Lib.hid r4
  have HB5 := Lib.hid hb5
  have HTY := Lib.hid (hty.keep hb5)
  have HDL := Lib.hid (hdl.bx (.of_below hb5))
  have HWR := Lib.hid (hwr.bx (.of_below hb5))
  have HI := Lib.hid hI
  have HNW := Lib.hid hnw
  have HOK := Lib.hid hok
  have HS5 := Lib.hid hs5
  have hH0 := r0.cell 0
  have hH1 := r0.cell 1
  have hH2 := r0.cell 2
  have hH3 := r0.cell 3
  have hH4 := r0.cell 4
  have hH5 := r0.cell 5
  simp only [List.getElem?_toArray, List.getElem?_cons_zero, List.getElem?_cons_succ] at hH0 hH1 hH2 hH3 hH4 hH5
  clear hty hdl hwr hnw hI hok hkd hW5 hG0 hG1 hG2 hG3 hG4 hs5 hb5 r0 r1 r2 r3 r4
  go_enter Try.func12, Try.ntmps12
  go_upto_region 2 with (fail)
  change Code.wp _ _ _ _ (boxes w (.slice pa s.base.items.length ca) (.slice pb s.base.blocks.length cb) (.slice pd s.deals.length cd) (.int .i64 (s.last : Int)) (.bool s.op) (.slice pl s.l.length cl) (.int .i64 a.kind) (.int .i64 a.block) (.string a.data) (.int .i64 a.keep))
  rw [HW5.out, HG4.out, HG3.out, HG2.out, HG1.out, HG0.out]
  go_upto_region 3 with (go_at_call 14; refine (Now_any _ s _ ⟨_, _, _, _, rfl, HTY.out, HDL.out, HWR.out⟩ HI.out.base HI.out.each).mono ?_; rintro e w6 ⟨x6, y6, rfl, hty6, hb6⟩; obtain ⟨px, cx, py, cy, rfl, rfl⟩ := hty6.slices)
  obtain ⟨G7, hG7⟩ : ∃ G, G = w6.heap.size := ⟨_, rfl⟩
  obtain ⟨W7, hW7⟩ : ∃ W, W = w6.alloc (.cells #[.slice px s.now.items.length cx, .slice py s.now.blocks.length cy] 27) := ⟨_, rfl⟩
  rw [← hW7, ← hG7]
  have hal : Below w6.heap.size w6 W7 := by rw [hW7]; exact below_alloc (Below.refl _ _) _
  have hb57 : Below W5.heap.size W5 W7 := below_then hb6 hal
  have hnb : VBox W7 G7 (.slice px s.now.items.length cx) (.slice py s.now.blocks.length cy) := by rw [hW7, hG7]; exact VBox.new _ _ _
  have hnt : VolTy W7 (.slice px s.now.items.length cx) (.slice py s.now.blocks.length cy) s.now := hty6.keep hal
  have hGN : G4 < G7 := by rw [hG7, ← HG4.out]; have := hb6.size; have := HS5.out; omega
  have hGs : w.heap.size ≤ G0 ∧ w.heap.size ≤ G1 ∧ w.heap.size ≤ G2 ∧ w.heap.size ≤ G3 ∧ w.heap.size ≤ G4 ∧ G0 < G1 ∧ G1 < G2 ∧ G2 < G3 ∧ G3 < G4 := by have := HG0.out; have := HG1.out; have := HG2.out; have := HG3.out; have := HG4.out; omega
  have htr := Trk.first HB5.out hb57 ⟨hGs.1, hGs.2.1, hGs.2.2.1, hGs.2.2.2.1, hGs.2.2.2.2.1⟩ HR0.out HR1.out HR2.out HR3.out HR4.out
  obtain ⟨q0, q1, q2, q3, q4⟩ : RowAt W7 G0 _ _ ∧ RowAt W7 G1 _ _ ∧ RowAt W7 G2 _ _ ∧ RowAt W7 G3 _ _ ∧ RowAt W7 G4 _ _ := ⟨HR0.out.past hb57, HR1.out.past hb57, HR2.out.past hb57, HR3.out.past hb57, HR4.out.past hb57⟩
  have HTR := Lib.hid htr
  have HP2 := Lib.hid q2
  have HP3 := Lib.hid q3
  have HNT := Lib.hid hnt
  have HTY7 := Lib.hid (HTY.out.keep hb57)
  have HDL7 := Lib.hid (HDL.out.bx (.of_below hb57))
  have HWR7 := Lib.hid (HWR.out.bx (.of_below hb57))
  clear hH0 hH1 hH2 hH3 hH4 hH5
  have m01 : ¬ G0 = G1 := by omega
  have m02 : ¬ G0 = G2 := by omega
  have m03 : ¬ G0 = G3 := by omega
  have m04 : ¬ G0 = G4 := by omega
  have m07 : ¬ G0 = G7 := by omega
  have m10 : ¬ G1 = G0 := by omega
  have m12 : ¬ G1 = G2 := by omega
  have m13 : ¬ G1 = G3 := by omega
  have m14 : ¬ G1 = G4 := by omega
  have m17 : ¬ G1 = G7 := by omega
  have m20 : ¬ G2 = G0 := by omega
  have m21 : ¬ G2 = G1 := by omega
  have m23 : ¬ G2 = G3 := by omega
  have m24 : ¬ G2 = G4 := by omega
  have m27 : ¬ G2 = G7 := by omega
  have m30 : ¬ G3 = G0 := by omega
  have m31 : ¬ G3 = G1 := by omega
  have m32 : ¬ G3 = G2 := by omega
  have m34 : ¬ G3 = G4 := by omega
  have m37 : ¬ G3 = G7 := by omega
  have m40 : ¬ G4 = G0 := by omega
  have m41 : ¬ G4 = G1 := by omega
  have m42 : ¬ G4 = G2 := by omega
  have m43 : ¬ G4 = G3 := by omega
  have m47 : ¬ G4 = G7 := by omega
  have m70 : ¬ G7 = G0 := by omega
  have m71 : ¬ G7 = G1 := by omega
  have m72 : ¬ G7 = G2 := by omega
  have m73 : ¬ G7 = G3 := by omega
  have m74 : ¬ G7 = G4 := by omega
  have Q0 := Lib.hid q0
  have Q1 := Lib.hid q1
  have Q4 := Lib.hid q4
  have Q7 := Lib.hid (show RowAt W7 G7 27 #[.slice px s.now.items.length cx, .slice py s.now.blocks.length cy] from hnb)
  obtain ⟨⟨hH0, hH1, hH2, hH3, hH4, hH5⟩, ⟨hA0, hA1, hA2, hA3⟩, ⟨hP0, hP1, hP2, hP3, hP4, hP5⟩, ⟨hQ0, hQ1, hQ2, hQ3, hQ4⟩, ⟨hO0, hO1, hO2, hO3, hO4⟩, ⟨n0, n1⟩, hfH, hfP, hfQ, hfO⟩ := box_facts q0 q1 q2 q3 q4 Q7.out
  clear hal hb57 hnb hty6 hb6 hW7 hG7 htr hnt q0 q1 q2 q3 q4 HR0 HR1 HR2 HR3 HR4 HB5 HTY HDL HWR HS5 HW5 HG0 HG1 HG2 HG3 HG4 hGs hGN
  have hk1 : (a.kind == 1) = false := by have := HKD.out; simp; omega
  have hk2 : (a.kind == 2) = false := by have := HKD.out; simp; omega
  have hk3 : (a.kind == 3) = false := by have := HKD.out; simp; omega
  have hk4 : (a.kind == 4) = false := by have := HKD.out; simp; omega
  have hk5 : (a.kind == 5) = false := by have := HKD.out; simp; omega
  have hk6 : (a.kind == 6) = false := by have := HKD.out; simp; omega
  have hk7 : (a.kind == 7) = false := by have := HKD.out; simp; omega
  have hk8 : (a.kind == 8) = false := by have := HKD.out; simp; omega
  have hk9 : (a.kind == 9) = false := by have := HKD.out; simp; omega
  have HST := Lib.hid (EM.step_odd s a HKD.out)
  go_wp2
  go_region
  all_goals
    go_wp2
    refine ended (G2 := G2) (G3 := G3) rfl rfl rfl (RowAt.drew (row_fin m23 (by repeat (first | with_reducible exact HP2.out | (with_reducible refine RowAt.far ?_ (by assumption)))) (by repeat (first | with_reducible exact HP3.out | (with_reducible refine RowAt.far ?_ (by assumption)))) _ _ _ _ _ _ _ _ _ _ _).1) (RowAt.drew (row_fin m23 (by repeat (first | with_reducible exact HP2.out | (with_reducible refine RowAt.far ?_ (by assumption)))) (by repeat (first | with_reducible exact HP3.out | (with_reducible refine RowAt.far ?_ (by assumption)))) _ _ _ _ _ _ _ _ _ _ _).2) ?_
    exact acted (s := s) (t := s) (z := EM.err 3) (HST.out) (bs := [G0, G1, G2, G3, G4]) (W7 := W7) (by repeat (first | with_reducible exact HTR.out | with_reducible refine Trk.drew ?_ | with_reducible refine Trk.set ?_ (by simp) _ _)) HTY7.out HDL7.out HWR7.out
end Go.Proofs.Ythjaanhkmfiajac

/- The document's ActedOf: one action. Conditions: the house is sound, the action's numbers are ints. -/
namespace Go.Proofs.Ythjaanhkmfiajac
open Go.RowKit LM EM

set_option maxRecDepth 100000 in
set_option maxHeartbeats 4000000 in
theorem Acted_Stat (n : Nat) (hv : Value) (s : EM.St) (a : EM.Act) (w : World) (h : HouseV w hv s) (hI : EM.Inv n s) (hok : ActOk a) (hkd : a.kind = 9) :
    Calls Try.prog 12 #[hv, .agg #[.int .i64 a.kind, .int .i64 a.block, .string a.data, .int .i64 a.keep]] w (ActedRet s a w) := by
  obtain ⟨bi, bb, dv, lv, rfl, hty, hdl, hwr⟩ := h
  obtain ⟨pa, ca, pb, cb, rfl, rfl⟩ := hty.slices
  obtain ⟨pd, cd, rfl, hdc, hd47⟩ := hdl.slice
  obtain ⟨pl, cl, rfl⟩ := hwr.slice
  have hnw := hI.now
  obtain ⟨G0, hG0⟩ : ∃ G, G = w.heap.size := ⟨_, rfl⟩
  obtain ⟨G1, hG1⟩ : ∃ G, G = w.heap.size + 1 := ⟨_, rfl⟩
  obtain ⟨G2, hG2⟩ : ∃ G, G = w.heap.size + 1 + 1 := ⟨_, rfl⟩
  obtain ⟨G3, hG3⟩ : ∃ G, G = w.heap.size + 1 + 1 + 1 := ⟨_, rfl⟩
  obtain ⟨G4, hG4⟩ : ∃ G, G = w.heap.size + 1 + 1 + 1 + 1 := ⟨_, rfl⟩
  obtain ⟨W5, hW5⟩ : ∃ W, W = boxes w (.slice pa s.base.items.length ca) (.slice pb s.base.blocks.length cb) (.slice pd s.deals.length cd) (.int .i64 (s.last : Int)) (.bool s.op) (.slice pl s.l.length cl) (.int .i64 a.kind) (.int .i64 a.block) (.string a.data) (.int .i64 a.keep) := ⟨_, rfl⟩
  obtain ⟨r0, r1, r2, r3, r4, hs5, hb5⟩ := boxes_at hW5
  rw [← hG0] at r0
  rw [← hG1] at r1
  rw [← hG2] at r2
  rw [← hG3] at r3
  rw [← hG4] at r4
  have HKD := Lib.hid hkd
  have HG0 := Lib.hid hG0.symm
  have HG1 := Lib.hid hG1.symm
  have HG2 := Lib.hid hG2.symm
  have HG3 := Lib.hid hG3.symm
  have HG4 := Lib.hid hG4.symm
  have HW5 := Lib.hid hW5.symm
  have HR0 := Lib.hid r0
  have HR1 := Lib.hid r1
  have HR2 := Lib.hid r2
  have HR3 := Lib.hid r3
  have HR4 := Lib.hid r4
  have HB5 := Lib.hid hb5
  have HTY := Lib.hid (hty.keep hb5)
  have HDL := Lib.hid (hdl.bx (.of_below hb5))
  have HWR := Lib.hid (hwr.bx (.of_below hb5))
  have HI := Lib.hid hI
  have HNW := Lib.hid hnw
  have HOK := Lib.hid hok
  have HS5 := Lib.hid hs5
  have hH0 := r0.cell 0
  have hH1 := r0.cell 1
  have hH2 := r0.cell 2
  have hH3 := r0.cell 3
  have hH4 := r0.cell 4
  have hH5 := r0.cell 5
  simp only [List.getElem?_toArray, List.getElem?_cons_zero, List.getElem?_cons_succ] at hH0 hH1 hH2 hH3 hH4 hH5
  clear hty hdl hwr hnw hI hok hkd hW5 hG0 hG1 hG2 hG3 hG4 hs5 hb5 r0 r1 r2 r3 r4
  go_enter Try.func12, Try.ntmps12
  go_upto_region 2 with (fail)
  change Code.wp _ _ _ _ (boxes w (.slice pa s.base.items.length ca) (.slice pb s.base.blocks.length cb) (.slice pd s.deals.length cd) (.int .i64 (s.last : Int)) (.bool s.op) (.slice pl s.l.length cl) (.int .i64 a.kind) (.int .i64 a.block) (.string a.data) (.int .i64 a.keep))
  rw [HW5.out, HG4.out, HG3.out, HG2.out, HG1.out, HG0.out]
  go_upto_region 3 with (go_at_call 14; refine (Now_any _ s _ ⟨_, _, _, _, rfl, HTY.out, HDL.out, HWR.out⟩ HI.out.base HI.out.each).mono ?_; rintro e w6 ⟨x6, y6, rfl, hty6, hb6⟩; obtain ⟨px, cx, py, cy, rfl, rfl⟩ := hty6.slices)
  obtain ⟨G7, hG7⟩ : ∃ G, G = w6.heap.size := ⟨_, rfl⟩
  obtain ⟨W7, hW7⟩ : ∃ W, W = w6.alloc (.cells #[.slice px s.now.items.length cx, .slice py s.now.blocks.length cy] 27) := ⟨_, rfl⟩
  rw [← hW7, ← hG7]
  have hal : Below w6.heap.size w6 W7 := by rw [hW7]; exact below_alloc (Below.refl _ _) _
  have hb57 : Below W5.heap.size W5 W7 := below_then hb6 hal
  have hnb : VBox W7 G7 (.slice px s.now.items.length cx) (.slice py s.now.blocks.length cy) := by rw [hW7, hG7]; exact VBox.new _ _ _
  have hnt : VolTy W7 (.slice px s.now.items.length cx) (.slice py s.now.blocks.length cy) s.now := hty6.keep hal
  have hGN : G4 < G7 := by rw [hG7, ← HG4.out]; have := hb6.size; have := HS5.out; omega
  have hGs : w.heap.size ≤ G0 ∧ w.heap.size ≤ G1 ∧ w.heap.size ≤ G2 ∧ w.heap.size ≤ G3 ∧ w.heap.size ≤ G4 ∧ G0 < G1 ∧ G1 < G2 ∧ G2 < G3 ∧ G3 < G4 := by have := HG0.out; have := HG1.out; have := HG2.out; have := HG3.out; have := HG4.out; omega
  have htr := Trk.first HB5.out hb57 ⟨hGs.1, hGs.2.1, hGs.2.2.1, hGs.2.2.2.1, hGs.2.2.2.2.1⟩ HR0.out HR1.out HR2.out HR3.out HR4.out
  obtain ⟨q0, q1, q2, q3, q4⟩ : RowAt W7 G0 _ _ ∧ RowAt W7 G1 _ _ ∧ RowAt W7 G2 _ _ ∧ RowAt W7 G3 _ _ ∧ RowAt W7 G4 _ _ := ⟨HR0.out.past hb57, HR1.out.past hb57, HR2.out.past hb57, HR3.out.past hb57, HR4.out.past hb57⟩
  have HTR := Lib.hid htr
  have HP2 := Lib.hid q2
  have HP3 := Lib.hid q3
  have HNT := Lib.hid hnt
  have HTY7 := Lib.hid (HTY.out.keep hb57)
  have HDL7 := Lib.hid (HDL.out.bx (.of_below hb57))
  have HWR7 := Lib.hid (HWR.out.bx (.of_below hb57))
  clear hH0 hH1 hH2 hH3 hH4 hH5
  have m01 : ¬ G0 = G1 := by omega
  have m02 : ¬ G0 = G2 := by omega
  have m03 : ¬ G0 = G3 := by omega
  have m04 : ¬ G0 = G4 := by omega
  have m07 : ¬ G0 = G7 := by omega
  have m10 : ¬ G1 = G0 := by omega
  have m12 : ¬ G1 = G2 := by omega
  have m13 : ¬ G1 = G3 := by omega
  have m14 : ¬ G1 = G4 := by omega
  have m17 : ¬ G1 = G7 := by omega
  have m20 : ¬ G2 = G0 := by omega
  have m21 : ¬ G2 = G1 := by omega
  have m23 : ¬ G2 = G3 := by omega
  have m24 : ¬ G2 = G4 := by omega
  have m27 : ¬ G2 = G7 := by omega
  have m30 : ¬ G3 = G0 := by omega
  have m31 : ¬ G3 = G1 := by omega
  have m32 : ¬ G3 = G2 := by omega
  have m34 : ¬ G3 = G4 := by omega
  have m37 : ¬ G3 = G7 := by omega
  have m40 : ¬ G4 = G0 := by omega
  have m41 : ¬ G4 = G1 := by omega
  have m42 : ¬ G4 = G2 := by omega
  have m43 : ¬ G4 = G3 := by omega
  have m47 : ¬ G4 = G7 := by omega
  have m70 : ¬ G7 = G0 := by omega
  have m71 : ¬ G7 = G1 := by omega
  have m72 : ¬ G7 = G2 := by omega
  have m73 : ¬ G7 = G3 := by omega
  have m74 : ¬ G7 = G4 := by omega
  have Q0 := Lib.hid q0
  have Q1 := Lib.hid q1
  have Q4 := Lib.hid q4
  have Q7 := Lib.hid (show RowAt W7 G7 27 #[.slice px s.now.items.length cx, .slice py s.now.blocks.length cy] from hnb)
  obtain ⟨⟨hH0, hH1, hH2, hH3, hH4, hH5⟩, ⟨hA0, hA1, hA2, hA3⟩, ⟨hP0, hP1, hP2, hP3, hP4, hP5⟩, ⟨hQ0, hQ1, hQ2, hQ3, hQ4⟩, ⟨hO0, hO1, hO2, hO3, hO4⟩, ⟨n0, n1⟩, hfH, hfP, hfQ, hfO⟩ := box_facts q0 q1 q2 q3 q4 Q7.out
  clear hal hb57 hnb hty6 hb6 hW7 hG7 htr hnt q0 q1 q2 q3 q4 HR0 HR1 HR2 HR3 HR4 HB5 HTY HDL HWR HS5 HW5 HG0 HG1 HG2 HG3 HG4 hGs hGN
  rw [HKD.out] at hA0
  have hst := step_kind9 (s := s) HKD.out
  have hlg := HI.out.log
  have htk : s.deals.take s.deals.length = s.deals := List.take_length
  have hlen : ∀ X, Bx W7 X → Calls Try.prog 31 #[.agg #[.slice pa s.base.items.length ca, .slice pb s.base.blocks.length cb, .slice pd s.deals.length cd, .int .i64 (s.last : Int), .bool s.op, .slice pl s.l.length cl], .int .i64 (s.deals.length : Int)] X fun e w' => e = .returned (.int .i64 ((bytesOf s.deals).length : Int)) ∧ Below X.heap.size X w' := by
    intro X hX
    have := length_any _ s s.deals.length (Nat.le_refl _) hlg X ⟨_, _, _, _, rfl, HTY7.out.bx hX, HDL7.out.bx hX, HWR7.out.bx hX⟩
    rw [htk] at this
    exact this
  have HST := Lib.hid hst
  have HLEN := Lib.hid hlen
  clear hst hlg htk hlen
  go_wp2_with (go_at_call 31; refine (HLEN.out _ (by exact ((Trk.set HTR.out (by simp) _ _ : Trk w.heap.size w W7 [G0, G1, G2, G3, G4] _)).1)).mono ?_; rintro e w8 ⟨rfl, hb8⟩; have k0 : RowAt w8 G0 47 #[.slice pa s.base.items.length ca, .slice pb s.base.blocks.length cb, .slice pd s.deals.length cd, .int .i64 (s.last : Int), .bool s.op, .slice pl s.l.length cl] := RowAt.past (by repeat (first | with_reducible exact Q0.out | (with_reducible refine RowAt.far ?_ (by assumption)) | with_reducible refine RowAt.alloc ?_ _)) hb8; have k1 : RowAt w8 G1 41 #[.int .i64 a.kind, .int .i64 a.block, .string a.data, .int .i64 a.keep] := RowAt.past (by repeat (first | with_reducible exact Q1.out | (with_reducible refine RowAt.far ?_ (by assumption)) | with_reducible refine RowAt.alloc ?_ _)) hb8; have k2 : RowAt w8 G2 47 #[.slice none 0 0, .slice none 0 0, .slice none 0 0, .int .i64 0, .bool false, .slice none 0 0] := RowAt.past (by repeat (first | with_reducible exact HP2.out | (with_reducible refine RowAt.far ?_ (by assumption)) | with_reducible refine RowAt.alloc ?_ _)) hb8; have k3 : RowAt w8 G3 43 #[.int .i64 0, .string ⟨#[]⟩, .int .i64 0, .int .i64 0, .int .i64 0] := RowAt.past (by repeat (first | with_reducible exact HP3.out | (with_reducible refine RowAt.far ?_ (by assumption)) | with_reducible refine RowAt.alloc ?_ _)) hb8; have k4 : RowAt w8 G4 43 #[.int .i64 0, .string ⟨#[]⟩, .int .i64 (s.now.items.length : Int), .int .i64 0, .int .i64 0] := RowAt.past (RowAt.put Q4.out _) hb8; have k7 : RowAt w8 G7 27 #[.slice px s.now.items.length cx, .slice py s.now.blocks.length cy] := RowAt.past (by repeat (first | with_reducible exact Q7.out | (with_reducible refine RowAt.far ?_ (by assumption)) | with_reducible refine RowAt.alloc ?_ _)) hb8; have HTR8 := Lib.hid (show Trk w.heap.size w W7 [G0, G1, G2, G3, G4] w8 from Trk.past (by repeat (first | with_reducible exact HTR.out | with_reducible refine Trk.drew ?_ | with_reducible refine Trk.alloc ?_ _ | with_reducible refine Trk.set ?_ (by simp) _ _)) hb8); obtain ⟨⟨hH0, hH1, hH2, hH3, hH4, hH5⟩, ⟨hA0, hA1, hA2, hA3⟩, ⟨hP0, hP1, hP2, hP3, hP4, hP5⟩, ⟨hQ0, hQ1, hQ2, hQ3, hQ4⟩, ⟨hO0, hO1, hO2, hO3, hO4⟩, ⟨n0, n1⟩, hfH, hfP, hfQ, hfO⟩ := box_facts k0 k1 k2 k3 k4 k7; have HK0 := Lib.hid k0; have HK1 := Lib.hid k1; have HK2 := Lib.hid k2; have HK3 := Lib.hid k3; have HK4 := Lib.hid k4; have HK7 := Lib.hid k7; clear k0 k1 k2 k3 k4 k7; clear HTR HP2 HP3 Q0 Q1 Q4 Q7; have HTR := HTR8; have Q0 := HK0; have Q1 := HK1; have HP2 := HK2; have HP3 := HK3; have Q4 := HK4; have Q7 := HK7; clear HTR8 HK0 HK1 HK2 HK3 HK4 HK7; have HTN0 := Lib.hid (show Trk w.heap.size w w8 [G0, G1, G2, G3, G4] w8 from ⟨Bx.refl _, HTR.out.2⟩); (try clear HTN); have HTN := HTN0; clear HTN0)
  go_region
  all_goals
    go_wp2
    refine ended (G2 := G2) (G3 := G3) rfl rfl rfl (RowAt.drew (row_fin m23 (by repeat (first | with_reducible exact HP2.out | (with_reducible refine RowAt.far ?_ (by assumption)))) (by repeat (first | with_reducible exact HP3.out | (with_reducible refine RowAt.far ?_ (by assumption)))) _ _ _ _ _ _ _ _ _ _ _).1) (RowAt.drew (row_fin m23 (by repeat (first | with_reducible exact HP2.out | (with_reducible refine RowAt.far ?_ (by assumption)))) (by repeat (first | with_reducible exact HP3.out | (with_reducible refine RowAt.far ?_ (by assumption)))) _ _ _ _ _ _ _ _ _ _ _).2) ?_
    exact acted (s := s) (t := s) (z := { EM.ok with items := (s.now.items.length : Int), log := ((bytesOf s.deals).length : Int) }) (HST.out) (bs := [G0, G1, G2, G3, G4]) (W7 := W7) (by repeat (first | with_reducible exact HTR.out | with_reducible refine Trk.drew ?_ | with_reducible refine Trk.set ?_ (by simp) _ _)) HTY7.out HDL7.out HWR7.out
end Go.Proofs.Ythjaanhkmfiajac
