/- The document's ActedOf: one action. Conditions: the house is sound, the action's numbers are ints. -/
import Derived.Test.YthjaanhkmfiajacRefHouses
namespace Go.Proofs.Ythjaanhkmfiajac
open Go.RowKit LM EM

theorem infoDeal : (Try.prog.info? 73).map (fun i => (i.zero, i.size, i.bytes)) = some (some (.agg #[.slice none 0 0, .int .i64 0]), 2, 32) := by kernel_rfl
theorem DealsT.rows {w : World} {v : Value} {D : List (List Wr)} (h : DealsT w v D) : ∃ R, DealsR w R D ∧ RowsAt drowC 2 w v R := by
  obtain ⟨p, c, R, _, _, h1, h2, _⟩ := h
  exact ⟨R, h1, h2⟩
theorem OwnR.capd {α : Type} {enc : α → List Value} {k B : Nat} {e : TypeId} {v : Value} {L : List α} {W0 w : World} (h : OwnR enc k B e v L W0 w) : ∃ p c, v = .slice p L.length c ∧ L.length ≤ c := by
  rcases h.1.2 with ⟨rfl, hn⟩ | ⟨_, cap, _, rfl, _, _, hcap, _⟩
  · exact ⟨none, 0, by rw [hn], by omega⟩
  · exact ⟨_, cap, rfl, hcap⟩
theorem DealsT.snoc {B : Nat} {W0 w : World} {v : Value} {R : List DRow} {D : List (List Wr)} {W : List Wr} {y : DRow} (hR : DealsR w R D) (ho : OwnR drowC 2 B 73 v (R ++ [y]) W0 w) (hW : InnerAt w (.slice y.p y.len y.cap) W) (hn : y.n = ((recL W).length : Int)) (hl : R.length ≤ 1000000) : DealsT w v (D ++ [W]) := by
  obtain ⟨q, c, rfl, hc⟩ := ho.capd
  have hlen : (R ++ [y]).length = (D ++ [W]).length := by simp [hR.1]
  refine ⟨q, c, R ++ [y], by rw [hlen], by rw [← hlen]; exact hc, ⟨hlen, fun i r X hr hX => ?_⟩, ho.rows drowE (by simp; omega), fun p hp => ?_⟩
  · by_cases hi : i < R.length
    · rw [List.getElem?_append_left hi] at hr
      rw [List.getElem?_append_left (by rw [← hR.1]; exact hi)] at hX
      exact hR.2 i r X hr hX
    · rw [List.getElem?_append_right (by omega)] at hr
      rw [List.getElem?_append_right (by rw [← hR.1]; omega)] at hX
      have hi0 : i - R.length = 0 := by
        have := (List.getElem?_eq_some_iff.1 hr).1
        simp at this
        omega
      rw [hi0] at hr
      rw [← hR.1, hi0] at hX
      cases hr
      cases hX
      exact ⟨hW, hn⟩
  · subst hp
    obtain ⟨cur, hcur⟩ := row_type ho.1 p.block rfl
    exact ⟨cur, _, hcur⟩
theorem deals_le : ∀ D : List (List Wr), D.length ≤ (bytesOf D).length
  | [] => Nat.zero_le _
  | W :: D => by
    have h := deals_le D
    have e : (bytesOf (W :: D)).length = (recL W).length + (bytesOf D).length := by unfold bytesOf; simp
    have h4 : 4 ≤ (recL W).length := by
      unfold recL
      rw [List.length_append, sealL_length]
      omega
    rw [e, List.length_cons]
    omega
set_option maxRecDepth 100000 in
set_option maxHeartbeats 4000000 in
theorem Acted_Commit (n : Nat) (hv : Value) (s : EM.St) (a : EM.Act) (w : World) (h : HouseV w hv s) (hI : EM.Inv n s) (hok : ActOk a) (hkd : a.kind = 4) :
    Calls Try.prog 12 #[hv, .agg #[.int .i64 a.kind, .int .i64 a.block, .string a.data, .int .i64 a.keep]] w (ActedRet s a w) := by
  obtain ⟨bi, bb, dv, lv, rfl, hty, hdl, hwr⟩ := h
  obtain ⟨pa, ca, pb, cb, rfl, rfl⟩ := hty.slices
  obtain ⟨pd, cd, rfl, hdc, hd47⟩ := hdl.slice
  obtain ⟨pl, cl, rfl⟩ := hwr.slice
  have hnw := hI.now
  obtain ⟨G0, hG0⟩ : ∃ G, G = w.heap.size := ⟨_, rfl⟩
  obtain ⟨G1, hG1⟩ : ∃ G, G = w.heap.size + 1 := ⟨_, rfl⟩
  obtain ⟨G2, hG2⟩ : ∃ G, G = w.heap.size + 1 + 1 := ⟨_, rfl⟩
  obtain ⟨G3, hG3⟩ : ∃ G, G = w.heap.size + 1 + 1 + 1 := ⟨_, rfl⟩
  obtain ⟨G4, hG4⟩ : ∃ G, G = w.heap.size + 1 + 1 + 1 + 1 := ⟨_, rfl⟩
  obtain ⟨W5, hW5⟩ : ∃ W, W = boxes w (.slice pa s.base.items.length ca) (.slice pb s.base.blocks.length cb) (.slice pd s.deals.length cd) (.int .i64 (s.last : Int)) (.bool s.op) (.slice pl s.l.length cl) (.int .i64 a.kind) (.int .i64 a.block) (.string a.data) (.int .i64 a.keep) := ⟨_, rfl⟩
  obtain ⟨r0, r1, r2, r3, r4, hs5, hb5⟩ := boxes_at hW5
  rw [← hG0] at r0
  rw [← hG1] at r1
  rw [← hG2] at r2
  rw [← hG3] at r3
  rw [← hG4] at r4
  have HKD := Lib.hid hkd
  have HG0 := Lib.hid hG0.symm
  have HG1 := Lib.hid hG1.symm
  have HG2 := Lib.hid hG2.symm
  have HG3 := Lib.hid hG3.symm
  have HG4 := Lib.hid hG4.symm
  have HW5 := Lib.hid hW5.symm
  have HR0 := Lib.hid r0
  have HR1 := Lib.hid r1
  have HR2 := Lib.hid r2
  have HR3 := Lib.hid r3
  have HR4 := Lib.hid r4
  have HB5 := Lib.hid hb5
  have HTY := Lib.hid (hty.keep hb5)
  have HDL := Lib.hid (hdl.bx (.of_below hb5))
  have HWR := Lib.hid (hwr.bx (.of_below hb5))
  have HI := Lib.hid hI
  have HNW := Lib.hid hnw
  have HOK := Lib.hid hok
  have HS5 := Lib.hid hs5
  have hH0 := r0.cell 0
  have hH1 := r0.cell 1
  have hH2 := r0.cell 2
  have hH3 := r0.cell 3
  have hH4 := r0.cell 4
  have hH5 := r0.cell 5
  simp only [List.getElem?_toArray, List.getElem?_cons_zero, List.getElem?_cons_succ] at hH0 hH1 hH2 hH3 hH4 hH5
  clear hty hdl hwr hnw hI hok hkd hW5 hG0 hG1 hG2 hG3 hG4 hs5 hb5 r0 r1 r2 r3 r4
  go_enter Try.func12, Try.ntmps12
  go_upto_region 2 with (fail)
  change Code.wp _ _ _ _ (boxes w (.slice pa s.base.items.length ca) (.slice pb s.base.blocks.length cb) (.slice pd s.deals.length cd) (.int .i64 (s.last : Int)) (.bool s.op) (.slice pl s.l.length cl) (.int .i64 a.kind) (.int .i64 a.block) (.string a.data) (.int .i64 a.keep))
  rw [HW5.out, HG4.out, HG3.out, HG2.out, HG1.out, HG0.out]
  go_upto_region 3 with (go_at_call 14; refine (Now_any _ s _ ⟨_, _, _, _, rfl, HTY.out, HDL.out, HWR.out⟩ HI.out.base HI.out.each).mono ?_; rintro e w6 ⟨x6, y6, rfl, hty6, hb6⟩; obtain ⟨px, cx, py, cy, rfl, rfl⟩ := hty6.slices)
  obtain ⟨G7, hG7⟩ : ∃ G, G = w6.heap.size := ⟨_, rfl⟩
  obtain ⟨W7, hW7⟩ : ∃ W, W = w6.alloc (.cells #[.slice px s.now.items.length cx, .slice py s.now.blocks.length cy] 27) := ⟨_, rfl⟩
  rw [← hW7, ← hG7]
  have hal : Below w6.heap.size w6 W7 := by rw [hW7]; exact below_alloc (Below.refl _ _) _
  have hb57 : Below W5.heap.size W5 W7 := below_then hb6 hal
  have hnb : VBox W7 G7 (.slice px s.now.items.length cx) (.slice py s.now.blocks.length cy) := by rw [hW7, hG7]; exact VBox.new _ _ _
  have hnt : VolTy W7 (.slice px s.now.items.length cx) (.slice py s.now.blocks.length cy) s.now := hty6.keep hal
  have hGN : G4 < G7 := by rw [hG7, ← HG4.out]; have := hb6.size; have := HS5.out; omega
  have hGs : w.heap.size ≤ G0 ∧ w.heap.size ≤ G1 ∧ w.heap.size ≤ G2 ∧ w.heap.size ≤ G3 ∧ w.heap.size ≤ G4 ∧ G0 < G1 ∧ G1 < G2 ∧ G2 < G3 ∧ G3 < G4 := by have := HG0.out; have := HG1.out; have := HG2.out; have := HG3.out; have := HG4.out; omega
  have htr := Trk.first HB5.out hb57 ⟨hGs.1, hGs.2.1, hGs.2.2.1, hGs.2.2.2.1, hGs.2.2.2.2.1⟩ HR0.out HR1.out HR2.out HR3.out HR4.out
  obtain ⟨q0, q1, q2, q3, q4⟩ : RowAt W7 G0 _ _ ∧ RowAt W7 G1 _ _ ∧ RowAt W7 G2 _ _ ∧ RowAt W7 G3 _ _ ∧ RowAt W7 G4 _ _ := ⟨HR0.out.past hb57, HR1.out.past hb57, HR2.out.past hb57, HR3.out.past hb57, HR4.out.past hb57⟩
  have HTR := Lib.hid htr
  have HP2 := Lib.hid q2
  have HP3 := Lib.hid q3
  have HNT := Lib.hid hnt
  have HTY7 := Lib.hid (HTY.out.keep hb57)
  have HDL7 := Lib.hid (HDL.out.bx (.of_below hb57))
  have HWR7 := Lib.hid (HWR.out.bx (.of_below hb57))
  clear hH0 hH1 hH2 hH3 hH4 hH5
  have m01 : ¬ G0 = G1 := by omega
  have m02 : ¬ G0 = G2 := by omega
  have m03 : ¬ G0 = G3 := by omega
  have m04 : ¬ G0 = G4 := by omega
  have m07 : ¬ G0 = G7 := by omega
  have m10 : ¬ G1 = G0 := by omega
  have m12 : ¬ G1 = G2 := by omega
  have m13 : ¬ G1 = G3 := by omega
  have m14 : ¬ G1 = G4 := by omega
  have m17 : ¬ G1 = G7 := by omega
  have m20 : ¬ G2 = G0 := by omega
  have m21 : ¬ G2 = G1 := by omega
  have m23 : ¬ G2 = G3 := by omega
  have m24 : ¬ G2 = G4 := by omega
  have m27 : ¬ G2 = G7 := by omega
  have m30 : ¬ G3 = G0 := by omega
  have m31 : ¬ G3 = G1 := by omega
  have m32 : ¬ G3 = G2 := by omega
  have m34 : ¬ G3 = G4 := by omega
  have m37 : ¬ G3 = G7 := by omega
  have m40 : ¬ G4 = G0 := by omega
  have m41 : ¬ G4 = G1 := by omega
  have m42 : ¬ G4 = G2 := by omega
  have m43 : ¬ G4 = G3 := by omega
  have m47 : ¬ G4 = G7 := by omega
  have m70 : ¬ G7 = G0 := by omega
  have m71 : ¬ G7 = G1 := by omega
  have m72 : ¬ G7 = G2 := by omega
  have m73 : ¬ G7 = G3 := by omega
  have m74 : ¬ G7 = G4 := by omega
  have Q0 := Lib.hid q0
  have Q1 := Lib.hid q1
  have Q4 := Lib.hid q4
  have Q7 := Lib.hid (show RowAt W7 G7 27 #[.slice px s.now.items.length cx, .slice py s.now.blocks.length cy] from hnb)
  obtain ⟨⟨hH0, hH1, hH2, hH3, hH4, hH5⟩, ⟨hA0, hA1, hA2, hA3⟩, ⟨hP0, hP1, hP2, hP3, hP4, hP5⟩, ⟨hQ0, hQ1, hQ2, hQ3, hQ4⟩, ⟨hO0, hO1, hO2, hO3, hO4⟩, ⟨n0, n1⟩, hfH, hfP, hfQ, hfO⟩ := box_facts q0 q1 q2 q3 q4 Q7.out
  clear hal hb57 hnb hty6 hb6 hW7 hG7 htr hnt q0 q1 q2 q3 q4 HR0 HR1 HR2 HR3 HR4 HB5 HTY HDL HWR HS5 HW5 HG0 HG1 HG2 HG3 HG4 hGs hGN
  rw [HKD.out] at hA0
  obtain ⟨i0, hi, hz0, hz1, hz2⟩ := info_parts infoDeal
  have hst := step_kind4 (s := s) HKD.out
  have hlg := HI.out.log
  have hdle := deals_le s.deals
  have hnl := HNW.out.2
  have hn32 := HI.out.n32
  have hfault : wFault s.l (s.now.blocks.length : Int) = 0 := wFault_of (hnl ▸ HI.out.l)
  obtain ⟨rc, hrc, hrcl⟩ : ∃ rc : ByteArray, ⟨(recL s.l).toArray⟩ = rc ∧ (rc.size : Int) = ((recL s.l).length : Int) := ⟨_, rfl, rfl⟩
  have hap : ∀ X, Bx W7 X → Calls Try.prog 29 #[.agg #[.slice px s.now.items.length cx, .slice py s.now.blocks.length cy], .slice pl s.l.length cl] X (RetVol (applied s.now s.l).1 (applied s.now s.l).2 X) := fun X hX => AppliedOf_any _ _ s.now s.l X (HNT.out.bx hX).at (HWR7.out.bx hX).1
  have hrec : ∀ X, Bx W7 X → Calls Try.prog 30 #[.slice pl s.l.length cl, .int .i64 (s.now.blocks.length : Int)] X fun e w' => e = .returned (.tuple #[.string rc, .int .i64 0]) ∧ Below X.heap.size X w' := by
    intro X hX
    have := RecordOf_ok _ s.l s.now.blocks.length (by omega) (by omega) hfault X (HWR7.out.bx hX).1
    rw [hrc] at this
    exact this
  have htk : s.deals.take s.deals.length = s.deals := List.take_length
  have hlen : ∀ X, Bx W7 X → Calls Try.prog 31 #[.agg #[.slice pa s.base.items.length ca, .slice pb s.base.blocks.length cb, .slice pd s.deals.length cd, .int .i64 (s.last : Int), .bool false, .slice none 0 0], .int .i64 (s.deals.length : Int)] X fun e w' => e = .returned (.int .i64 ((bytesOf s.deals).length : Int)) ∧ Below X.heap.size X w' := by
    intro X hX
    have := length_any _ { s with op := false, l := [] } s.deals.length (Nat.le_refl _) hlg X ⟨_, _, _, _, rfl, HTY7.out.bx hX, HDL7.out.bx hX, InnerAt.nil X⟩
    change Calls _ _ _ X fun e w' => e = .returned (.int .i64 ((bytesOf (s.deals.take s.deals.length)).length : Int)) ∧ _ at this
    rw [htk] at this
    exact this
  obtain ⟨bd, hbd⟩ : ∃ bd, bd = (bytesOf s.deals).length := ⟨_, rfl⟩
  rw [← hbd] at hlen hlg hst hdle
  obtain ⟨V8, hV8⟩ : ∃ V8, V8 = (applied s.now s.l).1 := ⟨_, rfl⟩
  obtain ⟨er, her⟩ : ∃ er, er = (applied s.now s.l).2 := ⟨_, rfl⟩
  rw [← hV8, ← her] at hap
  rw [← her] at hst
  have hrs : rc.size = (recL s.l).length := by omega
  rw [← hrs] at hst
  have hrmax : rc.size ≤ 1000000 := by
    rw [hrs]
    have hg : LM.Good s.now.blocks.length s.l := ⟨hfault, by omega⟩
    have := hg.body
    unfold recL
    rw [List.length_append, sealL_length]
    unfold LM.front
    simp
    omega
  have HAP := Lib.hid hap
  have HREC := Lib.hid hrec
  have HLEN := Lib.hid hlen
  have HST := Lib.hid hst
  have HRCL := Lib.hid hrcl
  have hd4 : s.deals.length ≤ 4000 := by omega
  have hwk := IntWalk.i64_in ((bd : Int) + (rc.size : Int)) (by omega)
  clear hap hrec hlen hst hrcl hrc hbd hV8 her hrs hfault htk hnl hdle
  cases hop : s.op with
  | false =>
    rw [hop] at hH4
    have hs2 : EM.step s a = (s, EM.err 7) := by rw [HST.out, if_pos hop]
    have HS2 := Lib.hid hs2
    have HOP := Lib.hid hop
    clear hs2 hop
    go_wp2
    go_region
    all_goals
      go_wp2
      refine ended (G2 := G2) (G3 := G3) rfl rfl rfl (RowAt.drew (row_fin m23 (by repeat (first | with_reducible exact HP2.out | (with_reducible refine RowAt.far ?_ (by assumption)))) (by repeat (first | with_reducible exact HP3.out | (with_reducible refine RowAt.far ?_ (by assumption)))) _ _ _ _ _ _ _ _ _ _ _).1) (RowAt.drew (row_fin m23 (by repeat (first | with_reducible exact HP2.out | (with_reducible refine RowAt.far ?_ (by assumption)))) (by repeat (first | with_reducible exact HP3.out | (with_reducible refine RowAt.far ?_ (by assumption)))) _ _ _ _ _ _ _ _ _ _ _).2) ?_
      exact acted (s := s) (t := { s with op := false }) (z := EM.err 7) ((by rw [HS2.out, ← HOP.out])) (bs := [G0, G1, G2, G3, G4]) (W7 := W7) (by repeat (first | with_reducible exact HTR.out | with_reducible refine Trk.drew ?_ | with_reducible refine Trk.set ?_ (by simp) _ _)) HTY7.out HDL7.out HWR7.out
  | true =>
    rw [hop] at hH4
    have HOP := Lib.hid hop
    clear hop
    by_cases he : er = 0
    · have HER := Lib.hid he
      subst he
      by_cases h4 : 4000 < bd + rc.size
      · have hs2 : EM.step s a = ({ s with op := false, l := [] }, EM.err 1) := by rw [HST.out, if_neg (by rw [HOP.out]; simp), if_neg (by simp), if_pos h4]
        have HS2 := Lib.hid hs2
        have h4i : (4000 : Int) < (bd : Int) + (rc.size : Int) := by omega
        clear hs2 h4
        go_wp2_with (first
          | (go_at_call 29; refine (HAP.out _ ((Trk.set (Trk.set HTR.out (by simp) _ _) (by simp) _ _ : Trk w.heap.size w W7 [G0, G1, G2, G3, G4] _)).1).mono ?_; rintro e w8 ⟨v8, u8, rfl, ho8⟩; (obtain ⟨p8, c8, rfl⟩ := ho8.1.isSlice); (obtain ⟨q8, d8, rfl⟩ := ho8.2.1.isSlice); have k0 : RowAt w8 G0 47 #[.slice pa s.base.items.length ca, .slice pb s.base.blocks.length cb, .slice pd s.deals.length cd, .int .i64 (s.last : Int), .bool false, .slice none 0 0] := RowAt.past (RowAt.put (RowAt.put Q0.out _) _) ho8.below; have k1 : RowAt w8 G1 41 #[.int .i64 a.kind, .int .i64 a.block, .string a.data, .int .i64 a.keep] := RowAt.past (by repeat (first | with_reducible exact Q1.out | (with_reducible refine RowAt.far ?_ (by assumption)) | with_reducible refine RowAt.alloc ?_ _)) ho8.below; have k2 : RowAt w8 G2 47 #[.slice none 0 0, .slice none 0 0, .slice none 0 0, .int .i64 0, .bool false, .slice none 0 0] := RowAt.past (by repeat (first | with_reducible exact HP2.out | (with_reducible refine RowAt.far ?_ (by assumption)) | with_reducible refine RowAt.alloc ?_ _)) ho8.below; have k3 : RowAt w8 G3 43 #[.int .i64 0, .string ⟨#[]⟩, .int .i64 0, .int .i64 0, .int .i64 0] := RowAt.past (by repeat (first | with_reducible exact HP3.out | (with_reducible refine RowAt.far ?_ (by assumption)) | with_reducible refine RowAt.alloc ?_ _)) ho8.below; have k4 : RowAt w8 G4 43 #[.int .i64 0, .string ⟨#[]⟩, .int .i64 0, .int .i64 0, .int .i64 0] := RowAt.past (by repeat (first | with_reducible exact Q4.out | (with_reducible refine RowAt.far ?_ (by assumption)) | with_reducible refine RowAt.alloc ?_ _)) ho8.below; have k7 : RowAt w8 G7 27 #[.slice px s.now.items.length cx, .slice py s.now.blocks.length cy] := RowAt.past (by repeat (first | with_reducible exact Q7.out | (with_reducible refine RowAt.far ?_ (by assumption)) | with_reducible refine RowAt.alloc ?_ _)) ho8.below; have HTR8 := Lib.hid (show Trk w.heap.size w W7 [G0, G1, G2, G3, G4] w8 from Trk.past (by repeat (first | with_reducible exact HTR.out | with_reducible refine Trk.drew ?_ | with_reducible refine Trk.alloc ?_ _ | with_reducible refine Trk.set ?_ (by simp) _ _)) ho8.below); obtain ⟨⟨hH0, hH1, hH2, hH3, hH4, hH5⟩, ⟨hA0, hA1, hA2, hA3⟩, ⟨hP0, hP1, hP2, hP3, hP4, hP5⟩, ⟨hQ0, hQ1, hQ2, hQ3, hQ4⟩, ⟨hO0, hO1, hO2, hO3, hO4⟩, ⟨n0, n1⟩, hfH, hfP, hfQ, hfO⟩ := box_facts k0 k1 k2 k3 k4 k7; have HK0 := Lib.hid k0; have HK1 := Lib.hid k1; have HK2 := Lib.hid k2; have HK3 := Lib.hid k3; have HK4 := Lib.hid k4; have HK7 := Lib.hid k7; clear k0 k1 k2 k3 k4 k7; clear HTR HP2 HP3 Q0 Q1 Q4 Q7; have HTR := HTR8; have Q0 := HK0; have Q1 := HK1; have HP2 := HK2; have HP3 := HK3; have Q4 := HK4; have Q7 := HK7; clear HTR8 HK0 HK1 HK2 HK3 HK4 HK7; have HTN0 := Lib.hid (show Trk w.heap.size w w8 [G0, G1, G2, G3, G4] w8 from ⟨Bx.refl _, HTR.out.2⟩); (try clear HTN); have HTN := HTN0; clear HTN0; have hna := (fun (o : Obj) => (Below.cell (below_alloc (Below.refl w8.heap.size w8) o) (p := ⟨G7, 1, none⟩) (cell_lt n1)).trans n1))
          | (go_at_call 30; refine (HREC.out _ ((Trk.alloc HTR.out _ : Trk w.heap.size w W7 [G0, G1, G2, G3, G4] _)).1).mono ?_; rintro e w9 ⟨rfl, hb9⟩; have k0 : RowAt w9 G0 47 #[.slice pa s.base.items.length ca, .slice pb s.base.blocks.length cb, .slice pd s.deals.length cd, .int .i64 (s.last : Int), .bool false, .slice none 0 0] := RowAt.past (by repeat (first | with_reducible exact Q0.out | (with_reducible refine RowAt.far ?_ (by assumption)) | with_reducible refine RowAt.alloc ?_ _)) hb9; have k1 : RowAt w9 G1 41 #[.int .i64 a.kind, .int .i64 a.block, .string a.data, .int .i64 a.keep] := RowAt.past (by repeat (first | with_reducible exact Q1.out | (with_reducible refine RowAt.far ?_ (by assumption)) | with_reducible refine RowAt.alloc ?_ _)) hb9; have k2 : RowAt w9 G2 47 #[.slice none 0 0, .slice none 0 0, .slice none 0 0, .int .i64 0, .bool false, .slice none 0 0] := RowAt.past (by repeat (first | with_reducible exact HP2.out | (with_reducible refine RowAt.far ?_ (by assumption)) | with_reducible refine RowAt.alloc ?_ _)) hb9; have k3 : RowAt w9 G3 43 #[.int .i64 0, .string ⟨#[]⟩, .int .i64 0, .int .i64 0, .int .i64 0] := RowAt.past (by repeat (first | with_reducible exact HP3.out | (with_reducible refine RowAt.far ?_ (by assumption)) | with_reducible refine RowAt.alloc ?_ _)) hb9; have k4 : RowAt w9 G4 43 #[.int .i64 0, .string ⟨#[]⟩, .int .i64 0, .int .i64 0, .int .i64 0] := RowAt.past (by repeat (first | with_reducible exact Q4.out | (with_reducible refine RowAt.far ?_ (by assumption)) | with_reducible refine RowAt.alloc ?_ _)) hb9; have k7 : RowAt w9 G7 27 #[.slice px s.now.items.length cx, .slice py s.now.blocks.length cy] := RowAt.past (by repeat (first | with_reducible exact Q7.out | (with_reducible refine RowAt.far ?_ (by assumption)) | with_reducible refine RowAt.alloc ?_ _)) hb9; have HTR8 := Lib.hid (show Trk w.heap.size w W7 [G0, G1, G2, G3, G4] w9 from Trk.past (by repeat (first | with_reducible exact HTR.out | with_reducible refine Trk.drew ?_ | with_reducible refine Trk.alloc ?_ _ | with_reducible refine Trk.set ?_ (by simp) _ _)) hb9); obtain ⟨⟨hH0, hH1, hH2, hH3, hH4, hH5⟩, ⟨hA0, hA1, hA2, hA3⟩, ⟨hP0, hP1, hP2, hP3, hP4, hP5⟩, ⟨hQ0, hQ1, hQ2, hQ3, hQ4⟩, ⟨hO0, hO1, hO2, hO3, hO4⟩, ⟨n0, n1⟩, hfH, hfP, hfQ, hfO⟩ := box_facts k0 k1 k2 k3 k4 k7; have HK0 := Lib.hid k0; have HK1 := Lib.hid k1; have HK2 := Lib.hid k2; have HK3 := Lib.hid k3; have HK4 := Lib.hid k4; have HK7 := Lib.hid k7; clear k0 k1 k2 k3 k4 k7; clear HTR HP2 HP3 Q0 Q1 Q4 Q7; have HTR := HTR8; have Q0 := HK0; have Q1 := HK1; have HP2 := HK2; have HP3 := HK3; have Q4 := HK4; have Q7 := HK7; clear HTR8 HK0 HK1 HK2 HK3 HK4 HK7; have HTN0 := Lib.hid (show Trk w.heap.size w w9 [G0, G1, G2, G3, G4] w9 from ⟨Bx.refl _, HTR.out.2⟩); (try clear HTN); have HTN := HTN0; clear HTN0)
          | (go_at_call 31; refine (HLEN.out _ HTR.out.1).mono ?_; rintro e w10 ⟨rfl, hb10⟩; have k0 : RowAt w10 G0 47 #[.slice pa s.base.items.length ca, .slice pb s.base.blocks.length cb, .slice pd s.deals.length cd, .int .i64 (s.last : Int), .bool false, .slice none 0 0] := RowAt.past (by repeat (first | with_reducible exact Q0.out | (with_reducible refine RowAt.far ?_ (by assumption)) | with_reducible refine RowAt.alloc ?_ _)) hb10; have k1 : RowAt w10 G1 41 #[.int .i64 a.kind, .int .i64 a.block, .string a.data, .int .i64 a.keep] := RowAt.past (by repeat (first | with_reducible exact Q1.out | (with_reducible refine RowAt.far ?_ (by assumption)) | with_reducible refine RowAt.alloc ?_ _)) hb10; have k2 : RowAt w10 G2 47 #[.slice none 0 0, .slice none 0 0, .slice none 0 0, .int .i64 0, .bool false, .slice none 0 0] := RowAt.past (by repeat (first | with_reducible exact HP2.out | (with_reducible refine RowAt.far ?_ (by assumption)) | with_reducible refine RowAt.alloc ?_ _)) hb10; have k3 : RowAt w10 G3 43 #[.int .i64 0, .string ⟨#[]⟩, .int .i64 0, .int .i64 0, .int .i64 0] := RowAt.past (by repeat (first | with_reducible exact HP3.out | (with_reducible refine RowAt.far ?_ (by assumption)) | with_reducible refine RowAt.alloc ?_ _)) hb10; have k4 : RowAt w10 G4 43 #[.int .i64 0, .string ⟨#[]⟩, .int .i64 0, .int .i64 0, .int .i64 0] := RowAt.past (by repeat (first | with_reducible exact Q4.out | (with_reducible refine RowAt.far ?_ (by assumption)) | with_reducible refine RowAt.alloc ?_ _)) hb10; have k7 : RowAt w10 G7 27 #[.slice px s.now.items.length cx, .slice py s.now.blocks.length cy] := RowAt.past (by repeat (first | with_reducible exact Q7.out | (with_reducible refine RowAt.far ?_ (by assumption)) | with_reducible refine RowAt.alloc ?_ _)) hb10; have HTR8 := Lib.hid (show Trk w.heap.size w W7 [G0, G1, G2, G3, G4] w10 from Trk.past (by repeat (first | with_reducible exact HTR.out | with_reducible refine Trk.drew ?_ | with_reducible refine Trk.alloc ?_ _ | with_reducible refine Trk.set ?_ (by simp) _ _)) hb10); obtain ⟨⟨hH0, hH1, hH2, hH3, hH4, hH5⟩, ⟨hA0, hA1, hA2, hA3⟩, ⟨hP0, hP1, hP2, hP3, hP4, hP5⟩, ⟨hQ0, hQ1, hQ2, hQ3, hQ4⟩, ⟨hO0, hO1, hO2, hO3, hO4⟩, ⟨n0, n1⟩, hfH, hfP, hfQ, hfO⟩ := box_facts k0 k1 k2 k3 k4 k7; have HK0 := Lib.hid k0; have HK1 := Lib.hid k1; have HK2 := Lib.hid k2; have HK3 := Lib.hid k3; have HK4 := Lib.hid k4; have HK7 := Lib.hid k7; clear k0 k1 k2 k3 k4 k7; clear HTR HP2 HP3 Q0 Q1 Q4 Q7; have HTR := HTR8; have Q0 := HK0; have Q1 := HK1; have HP2 := HK2; have HP3 := HK3; have Q4 := HK4; have Q7 := HK7; clear HTR8 HK0 HK1 HK2 HK3 HK4 HK7; have HTN0 := Lib.hid (show Trk w.heap.size w w10 [G0, G1, G2, G3, G4] w10 from ⟨Bx.refl _, HTR.out.2⟩); (try clear HTN); have HTN := HTN0; clear HTN0))
        go_region
        all_goals
          go_wp2
          refine ended (G2 := G2) (G3 := G3) rfl rfl rfl (RowAt.drew (row_fin m23 (by repeat (first | with_reducible exact HP2.out | (with_reducible refine RowAt.far ?_ (by assumption)))) (by repeat (first | with_reducible exact HP3.out | (with_reducible refine RowAt.far ?_ (by assumption)))) _ _ _ _ _ _ _ _ _ _ _).1) (RowAt.drew (row_fin m23 (by repeat (first | with_reducible exact HP2.out | (with_reducible refine RowAt.far ?_ (by assumption)))) (by repeat (first | with_reducible exact HP3.out | (with_reducible refine RowAt.far ?_ (by assumption)))) _ _ _ _ _ _ _ _ _ _ _).2) ?_
          exact acted (s := s) (t := { s with op := false, l := [] }) (z := EM.err 1) (HS2.out) (bs := [G0, G1, G2, G3, G4]) (W7 := W7) (by repeat (first | with_reducible exact HTR.out | with_reducible refine Trk.drew ?_ | with_reducible refine Trk.set ?_ (by simp) _ _)) HTY7.out HDL7.out (InnerAt.nil W7)
      · have hs2 : EM.step s a = ({ s with op := false, l := [], deals := s.deals ++ [s.l] }, EM.ok) := by rw [HST.out, if_neg (by rw [HOP.out]; simp), if_neg (by simp), if_neg h4]
        have HS2 := Lib.hid hs2
        have h4i : ¬ (4000 : Int) < (bd : Int) + (rc.size : Int) := by omega
        clear hs2 h4
        go_wp2_with (first
          | (go_at_call 29; refine (HAP.out _ ((Trk.set (Trk.set HTR.out (by simp) _ _) (by simp) _ _ : Trk w.heap.size w W7 [G0, G1, G2, G3, G4] _)).1).mono ?_; rintro e w8 ⟨v8, u8, rfl, ho8⟩; (obtain ⟨p8, c8, rfl⟩ := ho8.1.isSlice); (obtain ⟨q8, d8, rfl⟩ := ho8.2.1.isSlice); have k0 : RowAt w8 G0 47 #[.slice pa s.base.items.length ca, .slice pb s.base.blocks.length cb, .slice pd s.deals.length cd, .int .i64 (s.last : Int), .bool false, .slice none 0 0] := RowAt.past (RowAt.put (RowAt.put Q0.out _) _) ho8.below; have k1 : RowAt w8 G1 41 #[.int .i64 a.kind, .int .i64 a.block, .string a.data, .int .i64 a.keep] := RowAt.past (by repeat (first | with_reducible exact Q1.out | (with_reducible refine RowAt.far ?_ (by assumption)) | with_reducible refine RowAt.alloc ?_ _)) ho8.below; have k2 : RowAt w8 G2 47 #[.slice none 0 0, .slice none 0 0, .slice none 0 0, .int .i64 0, .bool false, .slice none 0 0] := RowAt.past (by repeat (first | with_reducible exact HP2.out | (with_reducible refine RowAt.far ?_ (by assumption)) | with_reducible refine RowAt.alloc ?_ _)) ho8.below; have k3 : RowAt w8 G3 43 #[.int .i64 0, .string ⟨#[]⟩, .int .i64 0, .int .i64 0, .int .i64 0] := RowAt.past (by repeat (first | with_reducible exact HP3.out | (with_reducible refine RowAt.far ?_ (by assumption)) | with_reducible refine RowAt.alloc ?_ _)) ho8.below; have k4 : RowAt w8 G4 43 #[.int .i64 0, .string ⟨#[]⟩, .int .i64 0, .int .i64 0, .int .i64 0] := RowAt.past (by repeat (first | with_reducible exact Q4.out | (with_reducible refine RowAt.far ?_ (by assumption)) | with_reducible refine RowAt.alloc ?_ _)) ho8.below; have k7 : RowAt w8 G7 27 #[.slice px s.now.items.length cx, .slice py s.now.blocks.length cy] := RowAt.past (by repeat (first | with_reducible exact Q7.out | (with_reducible refine RowAt.far ?_ (by assumption)) | with_reducible refine RowAt.alloc ?_ _)) ho8.below; have HTR8 := Lib.hid (show Trk w.heap.size w W7 [G0, G1, G2, G3, G4] w8 from Trk.past (by repeat (first | with_reducible exact HTR.out | with_reducible refine Trk.drew ?_ | with_reducible refine Trk.alloc ?_ _ | with_reducible refine Trk.set ?_ (by simp) _ _)) ho8.below); obtain ⟨⟨hH0, hH1, hH2, hH3, hH4, hH5⟩, ⟨hA0, hA1, hA2, hA3⟩, ⟨hP0, hP1, hP2, hP3, hP4, hP5⟩, ⟨hQ0, hQ1, hQ2, hQ3, hQ4⟩, ⟨hO0, hO1, hO2, hO3, hO4⟩, ⟨n0, n1⟩, hfH, hfP, hfQ, hfO⟩ := box_facts k0 k1 k2 k3 k4 k7; have HK0 := Lib.hid k0; have HK1 := Lib.hid k1; have HK2 := Lib.hid k2; have HK3 := Lib.hid k3; have HK4 := Lib.hid k4; have HK7 := Lib.hid k7; clear k0 k1 k2 k3 k4 k7; clear HTR HP2 HP3 Q0 Q1 Q4 Q7; have HTR := HTR8; have Q0 := HK0; have Q1 := HK1; have HP2 := HK2; have HP3 := HK3; have Q4 := HK4; have Q7 := HK7; clear HTR8 HK0 HK1 HK2 HK3 HK4 HK7; have HTN0 := Lib.hid (show Trk w.heap.size w w8 [G0, G1, G2, G3, G4] w8 from ⟨Bx.refl _, HTR.out.2⟩); (try clear HTN); have HTN := HTN0; clear HTN0; have hna := (fun (o : Obj) => (Below.cell (below_alloc (Below.refl w8.heap.size w8) o) (p := ⟨G7, 1, none⟩) (cell_lt n1)).trans n1))
          | (go_at_call 30; refine (HREC.out _ ((Trk.alloc HTR.out _ : Trk w.heap.size w W7 [G0, G1, G2, G3, G4] _)).1).mono ?_; rintro e w9 ⟨rfl, hb9⟩; have k0 : RowAt w9 G0 47 #[.slice pa s.base.items.length ca, .slice pb s.base.blocks.length cb, .slice pd s.deals.length cd, .int .i64 (s.last : Int), .bool false, .slice none 0 0] := RowAt.past (by repeat (first | with_reducible exact Q0.out | (with_reducible refine RowAt.far ?_ (by assumption)) | with_reducible refine RowAt.alloc ?_ _)) hb9; have k1 : RowAt w9 G1 41 #[.int .i64 a.kind, .int .i64 a.block, .string a.data, .int .i64 a.keep] := RowAt.past (by repeat (first | with_reducible exact Q1.out | (with_reducible refine RowAt.far ?_ (by assumption)) | with_reducible refine RowAt.alloc ?_ _)) hb9; have k2 : RowAt w9 G2 47 #[.slice none 0 0, .slice none 0 0, .slice none 0 0, .int .i64 0, .bool false, .slice none 0 0] := RowAt.past (by repeat (first | with_reducible exact HP2.out | (with_reducible refine RowAt.far ?_ (by assumption)) | with_reducible refine RowAt.alloc ?_ _)) hb9; have k3 : RowAt w9 G3 43 #[.int .i64 0, .string ⟨#[]⟩, .int .i64 0, .int .i64 0, .int .i64 0] := RowAt.past (by repeat (first | with_reducible exact HP3.out | (with_reducible refine RowAt.far ?_ (by assumption)) | with_reducible refine RowAt.alloc ?_ _)) hb9; have k4 : RowAt w9 G4 43 #[.int .i64 0, .string ⟨#[]⟩, .int .i64 0, .int .i64 0, .int .i64 0] := RowAt.past (by repeat (first | with_reducible exact Q4.out | (with_reducible refine RowAt.far ?_ (by assumption)) | with_reducible refine RowAt.alloc ?_ _)) hb9; have k7 : RowAt w9 G7 27 #[.slice px s.now.items.length cx, .slice py s.now.blocks.length cy] := RowAt.past (by repeat (first | with_reducible exact Q7.out | (with_reducible refine RowAt.far ?_ (by assumption)) | with_reducible refine RowAt.alloc ?_ _)) hb9; have HTR8 := Lib.hid (show Trk w.heap.size w W7 [G0, G1, G2, G3, G4] w9 from Trk.past (by repeat (first | with_reducible exact HTR.out | with_reducible refine Trk.drew ?_ | with_reducible refine Trk.alloc ?_ _ | with_reducible refine Trk.set ?_ (by simp) _ _)) hb9); obtain ⟨⟨hH0, hH1, hH2, hH3, hH4, hH5⟩, ⟨hA0, hA1, hA2, hA3⟩, ⟨hP0, hP1, hP2, hP3, hP4, hP5⟩, ⟨hQ0, hQ1, hQ2, hQ3, hQ4⟩, ⟨hO0, hO1, hO2, hO3, hO4⟩, ⟨n0, n1⟩, hfH, hfP, hfQ, hfO⟩ := box_facts k0 k1 k2 k3 k4 k7; have HK0 := Lib.hid k0; have HK1 := Lib.hid k1; have HK2 := Lib.hid k2; have HK3 := Lib.hid k3; have HK4 := Lib.hid k4; have HK7 := Lib.hid k7; clear k0 k1 k2 k3 k4 k7; clear HTR HP2 HP3 Q0 Q1 Q4 Q7; have HTR := HTR8; have Q0 := HK0; have Q1 := HK1; have HP2 := HK2; have HP3 := HK3; have Q4 := HK4; have Q7 := HK7; clear HTR8 HK0 HK1 HK2 HK3 HK4 HK7; have HTN0 := Lib.hid (show Trk w.heap.size w w9 [G0, G1, G2, G3, G4] w9 from ⟨Bx.refl _, HTR.out.2⟩); (try clear HTN); have HTN := HTN0; clear HTN0)
          | (go_at_call 31; refine (HLEN.out _ HTR.out.1).mono ?_; rintro e w10 ⟨rfl, hb10⟩; have k0 : RowAt w10 G0 47 #[.slice pa s.base.items.length ca, .slice pb s.base.blocks.length cb, .slice pd s.deals.length cd, .int .i64 (s.last : Int), .bool false, .slice none 0 0] := RowAt.past (by repeat (first | with_reducible exact Q0.out | (with_reducible refine RowAt.far ?_ (by assumption)) | with_reducible refine RowAt.alloc ?_ _)) hb10; have k1 : RowAt w10 G1 41 #[.int .i64 a.kind, .int .i64 a.block, .string a.data, .int .i64 a.keep] := RowAt.past (by repeat (first | with_reducible exact Q1.out | (with_reducible refine RowAt.far ?_ (by assumption)) | with_reducible refine RowAt.alloc ?_ _)) hb10; have k2 : RowAt w10 G2 47 #[.slice none 0 0, .slice none 0 0, .slice none 0 0, .int .i64 0, .bool false, .slice none 0 0] := RowAt.past (by repeat (first | with_reducible exact HP2.out | (with_reducible refine RowAt.far ?_ (by assumption)) | with_reducible refine RowAt.alloc ?_ _)) hb10; have k3 : RowAt w10 G3 43 #[.int .i64 0, .string ⟨#[]⟩, .int .i64 0, .int .i64 0, .int .i64 0] := RowAt.past (by repeat (first | with_reducible exact HP3.out | (with_reducible refine RowAt.far ?_ (by assumption)) | with_reducible refine RowAt.alloc ?_ _)) hb10; have k4 : RowAt w10 G4 43 #[.int .i64 0, .string ⟨#[]⟩, .int .i64 0, .int .i64 0, .int .i64 0] := RowAt.past (by repeat (first | with_reducible exact Q4.out | (with_reducible refine RowAt.far ?_ (by assumption)) | with_reducible refine RowAt.alloc ?_ _)) hb10; have k7 : RowAt w10 G7 27 #[.slice px s.now.items.length cx, .slice py s.now.blocks.length cy] := RowAt.past (by repeat (first | with_reducible exact Q7.out | (with_reducible refine RowAt.far ?_ (by assumption)) | with_reducible refine RowAt.alloc ?_ _)) hb10; have HTR8 := Lib.hid (show Trk w.heap.size w W7 [G0, G1, G2, G3, G4] w10 from Trk.past (by repeat (first | with_reducible exact HTR.out | with_reducible refine Trk.drew ?_ | with_reducible refine Trk.alloc ?_ _ | with_reducible refine Trk.set ?_ (by simp) _ _)) hb10); obtain ⟨⟨hH0, hH1, hH2, hH3, hH4, hH5⟩, ⟨hA0, hA1, hA2, hA3⟩, ⟨hP0, hP1, hP2, hP3, hP4, hP5⟩, ⟨hQ0, hQ1, hQ2, hQ3, hQ4⟩, ⟨hO0, hO1, hO2, hO3, hO4⟩, ⟨n0, n1⟩, hfH, hfP, hfQ, hfO⟩ := box_facts k0 k1 k2 k3 k4 k7; have HK0 := Lib.hid k0; have HK1 := Lib.hid k1; have HK2 := Lib.hid k2; have HK3 := Lib.hid k3; have HK4 := Lib.hid k4; have HK7 := Lib.hid k7; clear k0 k1 k2 k3 k4 k7; clear HTR HP2 HP3 Q0 Q1 Q4 Q7; have HTR := HTR8; have Q0 := HK0; have Q1 := HK1; have HP2 := HK2; have HP3 := HK3; have Q4 := HK4; have Q7 := HK7; clear HTR8 HK0 HK1 HK2 HK3 HK4 HK7; have HTN0 := Lib.hid (show Trk w.heap.size w w10 [G0, G1, G2, G3, G4] w10 from ⟨Bx.refl _, HTR.out.2⟩); (try clear HTN); have HTN := HTN0; clear HTN0)
          | (at_builtin; (have hdl10 := HDL7.out.bx ((Trk.set HTR.out (by simp) 0 (.int .i64 0) : Trk w.heap.size w W7 [G0, G1, G2, G3, G4] (w10.setCell ⟨G4, 0, none⟩ (.int .i64 0)))).1); (obtain ⟨R, hR10, hrows10⟩ := hdl10.rows); (have hRl : R.length = s.deals.length := hR10.1); have HR10 := Lib.hid hR10; have HRL := Lib.hid hRl; refine wpList_own_rs drowE rfl (.const (.slice none 0 0)) (.tmp 141) 45 rfl (w10.setCell ⟨G4, 0, none⟩ (.int .i64 0)).heap.size 73 i0 _ 32 Try.underlying45 hi hz0 rfl hz1 hz2 _ [] rfl (w10.setCell ⟨G4, 0, none⟩ (.int .i64 0)) R _ (OwnR.nil (Below.refl _ _) (Nat.le_refl _)) hrows10 rfl (by simp; omega) (by simp; omega) ?_; intro v11 w11 ho11 hg11; clear hg11 hR10 hRl hrows10 hdl10; (replace ho11 := ho11.cast (List.nil_append R)); obtain ⟨p11, c11, rfl⟩ := ho11.isSlice; have HO11 := Lib.hid ho11; clear ho11)
          | (at_builtin; refine wpList_own_r drowE rfl (.tmp 142) (.tmp 147) 45 rfl (w10.setCell ⟨G4, 0, none⟩ (.int .i64 0)).heap.size 73 i0 _ 32 Try.underlying45 hi hz0 rfl hz1 hz2 _ R rfl (w10.setCell ⟨G4, 0, none⟩ (.int .i64 0)) w11 ⟨pl, s.l.length, cl, (rc.size : Int)⟩ _ rfl HO11.out _ rfl rfl (by have := HRL.out; omega) (by have := HRL.out; omega) ?_; intro v12 w12 ho12 hg12; clear hg12; have hdt := DealsT.snoc (HR10.out.bx (.of_below ho12.below)) ho12 ((HWR7.out.bx ((Trk.set HTR.out (by simp) 0 (.int .i64 0) : Trk w.heap.size w W7 [G0, G1, G2, G3, G4] (w10.setCell ⟨G4, 0, none⟩ (.int .i64 0)))).1).bx (.of_below ho12.below)) HRCL.out (by have := HRL.out; omega); (obtain ⟨p12, c12, rfl⟩ := ho12.isSlice); have k0 : RowAt w12 G0 47 #[.slice pa s.base.items.length ca, .slice pb s.base.blocks.length cb, .slice pd s.deals.length cd, .int .i64 (s.last : Int), .bool false, .slice none 0 0] := RowAt.past (by repeat (first | with_reducible exact Q0.out | (with_reducible refine RowAt.far ?_ (by assumption)) | with_reducible refine RowAt.alloc ?_ _)) ho12.below; have k1 : RowAt w12 G1 41 #[.int .i64 a.kind, .int .i64 a.block, .string a.data, .int .i64 a.keep] := RowAt.past (by repeat (first | with_reducible exact Q1.out | (with_reducible refine RowAt.far ?_ (by assumption)) | with_reducible refine RowAt.alloc ?_ _)) ho12.below; have k2 : RowAt w12 G2 47 #[.slice none 0 0, .slice none 0 0, .slice none 0 0, .int .i64 0, .bool false, .slice none 0 0] := RowAt.past (by repeat (first | with_reducible exact HP2.out | (with_reducible refine RowAt.far ?_ (by assumption)) | with_reducible refine RowAt.alloc ?_ _)) ho12.below; have k3 : RowAt w12 G3 43 #[.int .i64 0, .string ⟨#[]⟩, .int .i64 0, .int .i64 0, .int .i64 0] := RowAt.past (by repeat (first | with_reducible exact HP3.out | (with_reducible refine RowAt.far ?_ (by assumption)) | with_reducible refine RowAt.alloc ?_ _)) ho12.below; have k4 : RowAt w12 G4 43 #[.int .i64 0, .string ⟨#[]⟩, .int .i64 0, .int .i64 0, .int .i64 0] := RowAt.past (RowAt.put Q4.out _) ho12.below; have k7 : RowAt w12 G7 27 #[.slice px s.now.items.length cx, .slice py s.now.blocks.length cy] := RowAt.past (by repeat (first | with_reducible exact Q7.out | (with_reducible refine RowAt.far ?_ (by assumption)) | with_reducible refine RowAt.alloc ?_ _)) ho12.below; have HTR8 := Lib.hid (show Trk w.heap.size w W7 [G0, G1, G2, G3, G4] w12 from Trk.past (by repeat (first | with_reducible exact HTR.out | with_reducible refine Trk.drew ?_ | with_reducible refine Trk.alloc ?_ _ | with_reducible refine Trk.set ?_ (by simp) _ _)) ho12.below); obtain ⟨⟨hH0, hH1, hH2, hH3, hH4, hH5⟩, ⟨hA0, hA1, hA2, hA3⟩, ⟨hP0, hP1, hP2, hP3, hP4, hP5⟩, ⟨hQ0, hQ1, hQ2, hQ3, hQ4⟩, ⟨hO0, hO1, hO2, hO3, hO4⟩, ⟨n0, n1⟩, hfH, hfP, hfQ, hfO⟩ := box_facts k0 k1 k2 k3 k4 k7; have HK0 := Lib.hid k0; have HK1 := Lib.hid k1; have HK2 := Lib.hid k2; have HK3 := Lib.hid k3; have HK4 := Lib.hid k4; have HK7 := Lib.hid k7; clear k0 k1 k2 k3 k4 k7; clear HTR HP2 HP3 Q0 Q1 Q4 Q7; have HTR := HTR8; have Q0 := HK0; have Q1 := HK1; have HP2 := HK2; have HP3 := HK3; have Q4 := HK4; have Q7 := HK7; clear HTR8 HK0 HK1 HK2 HK3 HK4 HK7; have HTN0 := Lib.hid (show Trk w.heap.size w w12 [G0, G1, G2, G3, G4] w12 from ⟨Bx.refl _, HTR.out.2⟩); (try clear HTN); have HTN := HTN0; clear HTN0; have HDT := Lib.hid hdt; clear hdt ho12))
        have h1n := HTY7.out.bx HTR.out.1
        have hdn : DealsT w12 (.slice p12 (R.length + 1) c12) (s.deals ++ [s.l]) := by
          have h := HDT.out
          rw [List.length_append] at h
          exact h
        go_region
        all_goals
          go_wp2
          refine ended (G2 := G2) (G3 := G3) rfl rfl rfl (RowAt.drew (row_fin m23 (by repeat (first | with_reducible exact HP2.out | (with_reducible refine RowAt.far ?_ (by assumption)))) (by repeat (first | with_reducible exact HP3.out | (with_reducible refine RowAt.far ?_ (by assumption)))) _ _ _ _ _ _ _ _ _ _ _).1) (RowAt.drew (row_fin m23 (by repeat (first | with_reducible exact HP2.out | (with_reducible refine RowAt.far ?_ (by assumption)))) (by repeat (first | with_reducible exact HP3.out | (with_reducible refine RowAt.far ?_ (by assumption)))) _ _ _ _ _ _ _ _ _ _ _).2) ?_
          exact acted (s := s) (t := { s with op := false, l := [], deals := s.deals ++ [s.l] }) (z := EM.ok) (HS2.out) (bs := [G0, G1, G2, G3, G4]) (W7 := w12) (by repeat (first | with_reducible exact HTN.out | with_reducible refine Trk.drew ?_ | with_reducible refine Trk.set ?_ (by simp) _ _)) h1n hdn (InnerAt.nil w12)
    · have hs2 : EM.step s a = ({ s with op := false, l := [] }, EM.err er) := by rw [HST.out, if_neg (by rw [HOP.out]; simp), if_pos he]
      have HS2 := Lib.hid hs2
      have het : (er == 0) = false := by simpa using he
      clear hs2 he
      go_wp2_with (first
        | (go_at_call 29; refine (HAP.out _ ((Trk.set (Trk.set HTR.out (by simp) _ _) (by simp) _ _ : Trk w.heap.size w W7 [G0, G1, G2, G3, G4] _)).1).mono ?_; rintro e w8 ⟨v8, u8, rfl, ho8⟩; (obtain ⟨p8, c8, rfl⟩ := ho8.1.isSlice); (obtain ⟨q8, d8, rfl⟩ := ho8.2.1.isSlice); have k0 : RowAt w8 G0 47 #[.slice pa s.base.items.length ca, .slice pb s.base.blocks.length cb, .slice pd s.deals.length cd, .int .i64 (s.last : Int), .bool false, .slice none 0 0] := RowAt.past (RowAt.put (RowAt.put Q0.out _) _) ho8.below; have k1 : RowAt w8 G1 41 #[.int .i64 a.kind, .int .i64 a.block, .string a.data, .int .i64 a.keep] := RowAt.past (by repeat (first | with_reducible exact Q1.out | (with_reducible refine RowAt.far ?_ (by assumption)) | with_reducible refine RowAt.alloc ?_ _)) ho8.below; have k2 : RowAt w8 G2 47 #[.slice none 0 0, .slice none 0 0, .slice none 0 0, .int .i64 0, .bool false, .slice none 0 0] := RowAt.past (by repeat (first | with_reducible exact HP2.out | (with_reducible refine RowAt.far ?_ (by assumption)) | with_reducible refine RowAt.alloc ?_ _)) ho8.below; have k3 : RowAt w8 G3 43 #[.int .i64 0, .string ⟨#[]⟩, .int .i64 0, .int .i64 0, .int .i64 0] := RowAt.past (by repeat (first | with_reducible exact HP3.out | (with_reducible refine RowAt.far ?_ (by assumption)) | with_reducible refine RowAt.alloc ?_ _)) ho8.below; have k4 : RowAt w8 G4 43 #[.int .i64 0, .string ⟨#[]⟩, .int .i64 0, .int .i64 0, .int .i64 0] := RowAt.past (by repeat (first | with_reducible exact Q4.out | (with_reducible refine RowAt.far ?_ (by assumption)) | with_reducible refine RowAt.alloc ?_ _)) ho8.below; have k7 : RowAt w8 G7 27 #[.slice px s.now.items.length cx, .slice py s.now.blocks.length cy] := RowAt.past (by repeat (first | with_reducible exact Q7.out | (with_reducible refine RowAt.far ?_ (by assumption)) | with_reducible refine RowAt.alloc ?_ _)) ho8.below; have HTR8 := Lib.hid (show Trk w.heap.size w W7 [G0, G1, G2, G3, G4] w8 from Trk.past (by repeat (first | with_reducible exact HTR.out | with_reducible refine Trk.drew ?_ | with_reducible refine Trk.alloc ?_ _ | with_reducible refine Trk.set ?_ (by simp) _ _)) ho8.below); obtain ⟨⟨hH0, hH1, hH2, hH3, hH4, hH5⟩, ⟨hA0, hA1, hA2, hA3⟩, ⟨hP0, hP1, hP2, hP3, hP4, hP5⟩, ⟨hQ0, hQ1, hQ2, hQ3, hQ4⟩, ⟨hO0, hO1, hO2, hO3, hO4⟩, ⟨n0, n1⟩, hfH, hfP, hfQ, hfO⟩ := box_facts k0 k1 k2 k3 k4 k7; have HK0 := Lib.hid k0; have HK1 := Lib.hid k1; have HK2 := Lib.hid k2; have HK3 := Lib.hid k3; have HK4 := Lib.hid k4; have HK7 := Lib.hid k7; clear k0 k1 k2 k3 k4 k7; clear HTR HP2 HP3 Q0 Q1 Q4 Q7; have HTR := HTR8; have Q0 := HK0; have Q1 := HK1; have HP2 := HK2; have HP3 := HK3; have Q4 := HK4; have Q7 := HK7; clear HTR8 HK0 HK1 HK2 HK3 HK4 HK7; have HTN0 := Lib.hid (show Trk w.heap.size w w8 [G0, G1, G2, G3, G4] w8 from ⟨Bx.refl _, HTR.out.2⟩); (try clear HTN); have HTN := HTN0; clear HTN0; have hna := (fun (o : Obj) => (Below.cell (below_alloc (Below.refl w8.heap.size w8) o) (p := ⟨G7, 1, none⟩) (cell_lt n1)).trans n1))
          | (go_at_call 30; refine (HREC.out _ ((Trk.alloc HTR.out _ : Trk w.heap.size w W7 [G0, G1, G2, G3, G4] _)).1).mono ?_; rintro e w9 ⟨rfl, hb9⟩; have k0 : RowAt w9 G0 47 #[.slice pa s.base.items.length ca, .slice pb s.base.blocks.length cb, .slice pd s.deals.length cd, .int .i64 (s.last : Int), .bool false, .slice none 0 0] := RowAt.past (by repeat (first | with_reducible exact Q0.out | (with_reducible refine RowAt.far ?_ (by assumption)) | with_reducible refine RowAt.alloc ?_ _)) hb9; have k1 : RowAt w9 G1 41 #[.int .i64 a.kind, .int .i64 a.block, .string a.data, .int .i64 a.keep] := RowAt.past (by repeat (first | with_reducible exact Q1.out | (with_reducible refine RowAt.far ?_ (by assumption)) | with_reducible refine RowAt.alloc ?_ _)) hb9; have k2 : RowAt w9 G2 47 #[.slice none 0 0, .slice none 0 0, .slice none 0 0, .int .i64 0, .bool false, .slice none 0 0] := RowAt.past (by repeat (first | with_reducible exact HP2.out | (with_reducible refine RowAt.far ?_ (by assumption)) | with_reducible refine RowAt.alloc ?_ _)) hb9; have k3 : RowAt w9 G3 43 #[.int .i64 0, .string ⟨#[]⟩, .int .i64 0, .int .i64 0, .int .i64 0] := RowAt.past (by repeat (first | with_reducible exact HP3.out | (with_reducible refine RowAt.far ?_ (by assumption)) | with_reducible refine RowAt.alloc ?_ _)) hb9; have k4 : RowAt w9 G4 43 #[.int .i64 0, .string ⟨#[]⟩, .int .i64 0, .int .i64 0, .int .i64 0] := RowAt.past (by repeat (first | with_reducible exact Q4.out | (with_reducible refine RowAt.far ?_ (by assumption)) | with_reducible refine RowAt.alloc ?_ _)) hb9; have k7 : RowAt w9 G7 27 #[.slice px s.now.items.length cx, .slice py s.now.blocks.length cy] := RowAt.past (by repeat (first | with_reducible exact Q7.out | (with_reducible refine RowAt.far ?_ (by assumption)) | with_reducible refine RowAt.alloc ?_ _)) hb9; have HTR8 := Lib.hid (show Trk w.heap.size w W7 [G0, G1, G2, G3, G4] w9 from Trk.past (by repeat (first | with_reducible exact HTR.out | with_reducible refine Trk.drew ?_ | with_reducible refine Trk.alloc ?_ _ | with_reducible refine Trk.set ?_ (by simp) _ _)) hb9); obtain ⟨⟨hH0, hH1, hH2, hH3, hH4, hH5⟩, ⟨hA0, hA1, hA2, hA3⟩, ⟨hP0, hP1, hP2, hP3, hP4, hP5⟩, ⟨hQ0, hQ1, hQ2, hQ3, hQ4⟩, ⟨hO0, hO1, hO2, hO3, hO4⟩, ⟨n0, n1⟩, hfH, hfP, hfQ, hfO⟩ := box_facts k0 k1 k2 k3 k4 k7; have HK0 := Lib.hid k0; have HK1 := Lib.hid k1; have HK2 := Lib.hid k2; have HK3 := Lib.hid k3; have HK4 := Lib.hid k4; have HK7 := Lib.hid k7; clear k0 k1 k2 k3 k4 k7; clear HTR HP2 HP3 Q0 Q1 Q4 Q7; have HTR := HTR8; have Q0 := HK0; have Q1 := HK1; have HP2 := HK2; have HP3 := HK3; have Q4 := HK4; have Q7 := HK7; clear HTR8 HK0 HK1 HK2 HK3 HK4 HK7; have HTN0 := Lib.hid (show Trk w.heap.size w w9 [G0, G1, G2, G3, G4] w9 from ⟨Bx.refl _, HTR.out.2⟩); (try clear HTN); have HTN := HTN0; clear HTN0)
          | (go_at_call 31; refine (HLEN.out _ HTR.out.1).mono ?_; rintro e w10 ⟨rfl, hb10⟩; have k0 : RowAt w10 G0 47 #[.slice pa s.base.items.length ca, .slice pb s.base.blocks.length cb, .slice pd s.deals.length cd, .int .i64 (s.last : Int), .bool false, .slice none 0 0] := RowAt.past (by repeat (first | with_reducible exact Q0.out | (with_reducible refine RowAt.far ?_ (by assumption)) | with_reducible refine RowAt.alloc ?_ _)) hb10; have k1 : RowAt w10 G1 41 #[.int .i64 a.kind, .int .i64 a.block, .string a.data, .int .i64 a.keep] := RowAt.past (by repeat (first | with_reducible exact Q1.out | (with_reducible refine RowAt.far ?_ (by assumption)) | with_reducible refine RowAt.alloc ?_ _)) hb10; have k2 : RowAt w10 G2 47 #[.slice none 0 0, .slice none 0 0, .slice none 0 0, .int .i64 0, .bool false, .slice none 0 0] := RowAt.past (by repeat (first | with_reducible exact HP2.out | (with_reducible refine RowAt.far ?_ (by assumption)) | with_reducible refine RowAt.alloc ?_ _)) hb10; have k3 : RowAt w10 G3 43 #[.int .i64 0, .string ⟨#[]⟩, .int .i64 0, .int .i64 0, .int .i64 0] := RowAt.past (by repeat (first | with_reducible exact HP3.out | (with_reducible refine RowAt.far ?_ (by assumption)) | with_reducible refine RowAt.alloc ?_ _)) hb10; have k4 : RowAt w10 G4 43 #[.int .i64 0, .string ⟨#[]⟩, .int .i64 0, .int .i64 0, .int .i64 0] := RowAt.past (by repeat (first | with_reducible exact Q4.out | (with_reducible refine RowAt.far ?_ (by assumption)) | with_reducible refine RowAt.alloc ?_ _)) hb10; have k7 : RowAt w10 G7 27 #[.slice px s.now.items.length cx, .slice py s.now.blocks.length cy] := RowAt.past (by repeat (first | with_reducible exact Q7.out | (with_reducible refine RowAt.far ?_ (by assumption)) | with_reducible refine RowAt.alloc ?_ _)) hb10; have HTR8 := Lib.hid (show Trk w.heap.size w W7 [G0, G1, G2, G3, G4] w10 from Trk.past (by repeat (first | with_reducible exact HTR.out | with_reducible refine Trk.drew ?_ | with_reducible refine Trk.alloc ?_ _ | with_reducible refine Trk.set ?_ (by simp) _ _)) hb10); obtain ⟨⟨hH0, hH1, hH2, hH3, hH4, hH5⟩, ⟨hA0, hA1, hA2, hA3⟩, ⟨hP0, hP1, hP2, hP3, hP4, hP5⟩, ⟨hQ0, hQ1, hQ2, hQ3, hQ4⟩, ⟨hO0, hO1, hO2, hO3, hO4⟩, ⟨n0, n1⟩, hfH, hfP, hfQ, hfO⟩ := box_facts k0 k1 k2 k3 k4 k7; have HK0 := Lib.hid k0; have HK1 := Lib.hid k1; have HK2 := Lib.hid k2; have HK3 := Lib.hid k3; have HK4 := Lib.hid k4; have HK7 := Lib.hid k7; clear k0 k1 k2 k3 k4 k7; clear HTR HP2 HP3 Q0 Q1 Q4 Q7; have HTR := HTR8; have Q0 := HK0; have Q1 := HK1; have HP2 := HK2; have HP3 := HK3; have Q4 := HK4; have Q7 := HK7; clear HTR8 HK0 HK1 HK2 HK3 HK4 HK7; have HTN0 := Lib.hid (show Trk w.heap.size w w10 [G0, G1, G2, G3, G4] w10 from ⟨Bx.refl _, HTR.out.2⟩); (try clear HTN); have HTN := HTN0; clear HTN0))
      go_region
      all_goals
        go_wp2
        refine ended (G2 := G2) (G3 := G3) rfl rfl rfl (RowAt.drew (row_fin m23 (by repeat (first | with_reducible exact HP2.out | (with_reducible refine RowAt.far ?_ (by assumption)))) (by repeat (first | with_reducible exact HP3.out | (with_reducible refine RowAt.far ?_ (by assumption)))) _ _ _ _ _ _ _ _ _ _ _).1) (RowAt.drew (row_fin m23 (by repeat (first | with_reducible exact HP2.out | (with_reducible refine RowAt.far ?_ (by assumption)))) (by repeat (first | with_reducible exact HP3.out | (with_reducible refine RowAt.far ?_ (by assumption)))) _ _ _ _ _ _ _ _ _ _ _).2) ?_
        exact acted (s := s) (t := { s with op := false, l := [] }) (z := EM.err er) (HS2.out) (bs := [G0, G1, G2, G3, G4]) (W7 := W7) (by repeat (first | with_reducible exact HTR.out | with_reducible refine Trk.drew ?_ | with_reducible refine Trk.set ?_ (by simp) _ _)) HTY7.out HDL7.out (InnerAt.nil W7)
end Go.Proofs.Ythjaanhkmfiajac
