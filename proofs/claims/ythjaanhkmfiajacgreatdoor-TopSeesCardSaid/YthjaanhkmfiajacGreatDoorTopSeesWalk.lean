/- TopSees, walked. No condition but that the numbers are ints. -/
import Derived.Test.YthjaanhkmfiajacGreatDoorTopBase
import Derived.Test.YthjaanhkmfiajacGreatDoorKeepConcat
namespace Go.Proofs.YthjaanhkmfiajacGreatDoor.topSees
open Go Go.RowKit

/-- the six actions behind the others -/
def six (b : Nat) (d : ByteArray) : List EM.Act := [EM.act 1, EM.readA b, EM.put b d, EM.readA b, EM.act 4, EM.readA b]
theorem sees_of (A : List EM.Act) {b : Nat} (hb : b < 8) {d : ByteArray} (hd : d.size ≤ 48) :
    ∃ x0 x1 x2 x3 x4 x5, (EM.runL (EM.start 8) [A ++ [EM.act 5], six b d].flatten).2 = (EM.runL (EM.start 8) (A ++ [EM.act 5])).2 ++ [x0, x1, x2, x3, x4, x5] ∧
      ((x4.code = 1 ∧ (reads8 (A ++ [EM.act 5]))[b]? = some x5.data) ∨ (x4.code = 0 ∧ (reads8 (A ++ [EM.act 5]))[b]? = some x1.data ∧ x3.data = d ∧ x5.data = d)) := by
  have hI := inv8 (A ++ [EM.act 5])
  have ho : (EM.runL (EM.start 8) (A ++ [EM.act 5])).1.op = false := by rw [run_append]; rfl
  obtain ⟨x0, x1, x2, x3, x4, x5, h1, h2⟩ := EM.sees (n := 8) (by omega) hI ho hb hd
  have hr : (reads8 (A ++ [EM.act 5]))[b]? = some (rd (EM.runL (EM.start 8) (A ++ [EM.act 5])).1.now b) := by
    unfold reads8 rds
    rw [List.getElem?_map, List.getElem?_range (by rw [hI.now.2]; exact hb)]
    rfl
  refine ⟨x0, x1, x2, x3, x4, x5, ?_, ?_⟩
  · have e : [A ++ [EM.act 5], six b d].flatten = (A ++ [EM.act 5]) ++ six b d := by simp
    rw [e, run_append]
    exact congrArg _ h1
  · rw [hr]
    rcases h2 with ⟨c1, c2⟩ | ⟨c1, c2, c3, c4⟩
    · exact .inl ⟨c1, by rw [c2]⟩
    · exact .inr ⟨c1, by rw [c2], c3, c4⟩

set_option maxRecDepth 100000 in
set_option maxHeartbeats 2000000 in
theorem walk (v : Value) (L : List Rw) (r : Rw) (w : World) (h : RawsAt w v L) (hok : ∀ r ∈ L, RwOk r) (hr : RwOk r) :
    Calls Tryz.prog 9 #[v, rwV r] w fun e w' => e = .returned (.bool true) ∧ Below w.heap.size w w' := by
  obtain ⟨i0, hi, hz0, hz1, hz2⟩ := info_parts infoAct
  have hA : ∀ w', Below w.heap.size w w' → Calls Tryz.prog 12 #[v, .int .i64 40] w' (ActsRet 40 w') := fun w' hb => Acts_any v L 40 (by omega) w' (h.keep hb) hok
  obtain ⟨b, hb, hb8⟩ := pick_nat r.c 8 (by omega)
  have hP := fun w => Picked_any r.c 8 hr.c (by omega) w
  rw [hb] at hP
  have hD : ∀ w, Calls Tryz.prog 28 #[rwV r] w (DataRet w) := fun w => Data_any r hr w
  have HP := Lib.hid hP
  have HD := Lib.hid hD
  have HA := Lib.hid hA
  obtain ⟨W1, hW1⟩ : ∃ W, W = w.alloc (.cells #[.int .i64 r.kind, .int .i64 r.a, .int .i64 r.b, .int .i64 r.c] 60) := ⟨_, rfl⟩
  clear h hok hA hb hP hD hr
  unfold rwV
  go_enter Tryz.func9, Tryz.ntmps9
  go_upto_region 3 with (first
    | (go_at_call 23; refine (HP.out _).mono ?_; rintro e w2 ⟨rfl, hb12⟩; have hc0 := (hb12.cell (p := ⟨w.heap.size, 0, none⟩) (by simp)).trans (show _ = some (Value.int .i64 r.kind) by simp); have hc1 := (hb12.cell (p := ⟨w.heap.size, 1, none⟩) (by simp)).trans (show _ = some (Value.int .i64 r.a) by simp); have hc2 := (hb12.cell (p := ⟨w.heap.size, 2, none⟩) (by simp)).trans (show _ = some (Value.int .i64 r.b) by simp); have hc3 := (hb12.cell (p := ⟨w.heap.size, 3, none⟩) (by simp)).trans (show _ = some (Value.int .i64 r.c) by simp))
    | (go_at_call 28; refine (HD.out _).mono ?_; rintro e w3 ⟨d, rfl, hd, hb23⟩))
  have hb3 : Below w.heap.size w w3 := below_then (below_then (below_alloc (Below.refl _ _) _) hb12) hb23
  have hd48 := hd.1.1
  clear hW1 hc0 hc1 hc2 hc3 HP HD hb12 hb23 hd
  go_upto_region 4 with (first
    | (go_at_call 12; refine (HA.out _ hb3).mono ?_; rintro e w4 ⟨v4, A, rfl, ho4, hl4, hg4⟩; obtain ⟨p4, c4, rfl⟩ := ho4.isSlice; have HO4 := Lib.hid ho4; have HG := Lib.hid hg4; clear ho4 hg4)
    | (at_builtin; refine wpList_own_r actE rfl (.tmp 20) (.tmp 22) 23 rfl _ 36 i0 _ 40 Tryz.underlying23 hi hz0 rfl hz1 hz2 _ A rfl w3 _ (EM.act 5) _ rfl HO4.out _ rfl (by simp) (by omega) (by omega) ?_; intro v5 w5 ho5 hg5; clear hg5 HO4))
  obtain ⟨x0, x1, x2, x3, x4, x5, hx, hcase⟩ := sees_of A (b := b) (by omega) hd48
  have hbok : ∀ a ∈ A ++ [EM.act 5], ActOk a := ActOk.append HG.out (by simpa using kind_ok (by omega))
  have hbl : (A ++ [EM.act 5]).length ≤ 41 := by simp; omega
  generalize A ++ [EM.act 5] = B at ho5 hbok hbl hx hcase ⊢
  obtain ⟨p5, c5, rfl⟩ := ho5.isSlice
  have hb5 := below_then hb3 ho5.below
  have HRB5 := Lib.hid (ho5.rows actE (by omega))
  have HBOK := Lib.hid hbok
  have HX := Lib.hid hx
  have HCASE := Lib.hid hcase
  clear ho5 hbok hx hcase HA HG hl4 hb3
  go_upto_region 5 with (go_at_call 26; refine (reads_at _ B (by omega) HBOK.out _ HRB5.out).mono ?_; rintro e w6 ⟨v6, rfl, hs6, hb56⟩)
  have hb6 := below_then hb5 hb56
  have HRB6 := Lib.hid (HRB5.out.keep hb56)
  have HS6 := Lib.hid hs6
  clear hs6 hb56 HRB5 hb5
  have hcr := acts2 (w := (w6.alloc (.cells #[.int .i64 3, .int .i64 (b : Int), .string ⟨#[]⟩, .int .i64 0] 36)).alloc (.cells #[.int .i64 1, .int .i64 0, .string ⟨#[]⟩, .int .i64 0, .int .i64 3, .int .i64 (b : Int), .string ⟨#[]⟩, .int .i64 0, .int .i64 2, .int .i64 (b : Int), .string d, .int .i64 0, .int .i64 3, .int .i64 (b : Int), .string ⟨#[]⟩, .int .i64 0, .int .i64 4, .int .i64 0, .string ⟨#[]⟩, .int .i64 0, .int .i64 3, .int .i64 (b : Int), .string ⟨#[]⟩, .int .i64 0] 36))
    (s0 := ⟨p5, B.length, c5⟩) (s1 := ⟨some ⟨w6.heap.size + 1, 0, none⟩, 6, 6⟩) (A0 := B) (A1 := six b d)
    (HRB6.out.keep (below_alloc (below_alloc (Below.refl _ _) _) _))
    (rows_new_at actE (six b d) 6 rfl (by simp [six]) _ 36 _ rfl _ (by simp))
  have hfl : [B, six b d].flatten.length = B.length + 6 := by simp [six]
  have hfo : ∀ a ∈ [B, six b d].flatten, ActOk a := by
    intro a ha
    simp only [List.flatten_cons, List.flatten_nil, List.append_nil, List.mem_append, six, List.mem_cons, List.not_mem_nil, or_false] at ha
    rcases ha with ha | rfl | rfl | rfl | rfl | rfl | rfl
    · exact HBOK.out a ha
    · exact kind_ok (by omega)
    · exact act_ok ⟨by omega, by omega⟩ ⟨by omega, by omega⟩ ⟨by omega, by omega⟩
    · exact act_ok ⟨by omega, by omega⟩ ⟨by omega, by omega⟩ ⟨by omega, by omega⟩
    · exact act_ok ⟨by omega, by omega⟩ ⟨by omega, by omega⟩ ⟨by omega, by omega⟩
    · exact kind_ok (by omega)
    · exact act_ok ⟨by omega, by omega⟩ ⟨by omega, by omega⟩ ⟨by omega, by omega⟩
  have HCR := Lib.hid hcr
  have HFL := Lib.hid hfl
  have HFO := Lib.hid hfo
  clear hcr hfl hfo
  go_upto_region 7 with (first
    | (go_at_call 27; refine (concat_of [⟨p5, B.length, c5⟩, ⟨some ⟨w6.heap.size + 1, 0, none⟩, 6, 6⟩] [B, six b d] _ rfl (by simp) HCR.out (by rw [HFL.out]; omega) (by rw [HFL.out]; omega) _ _ rfl _ _ (by simp) rfl).mono ?_; rintro e w7 ⟨v7, rfl, ho7⟩; have HO7 := Lib.hid ho7; clear ho7)
    | (go_at_call 21; refine (run_any _ [B, six b d].flatten (by rw [HFL.out]; omega) HFO.out _ (HO7.out.rows actE (by rw [HFL.out]; omega))).mono ?_; rintro e w8 ⟨v8, xx, yy, rfl, ho8, hv8⟩; obtain ⟨px, cx, qx, dx, rfl, rfl⟩ := hv8.slices; generalize (EM.runL (EM.start 8) [B, six b d].flatten).1.now = V at hv8 ⊢; rw [HX.out] at ho8; have hlen : ((EM.runL (EM.start 8) B).2 ++ [x0, x1, x2, x3, x4, x5]).length = B.length + 6 := (by rw [List.length_append, EM.runL_len]; rfl); obtain ⟨g8, cap8, rfl, hB8, hg8, hlc8, hcm8⟩ := ho8.shape (by rw [hlen]; omega); rw [hlen] at hlc8 ⊢))
  obtain ⟨W9, hW9⟩ : ∃ W, W = w8.alloc (.cells #[.slice px V.items.length cx, .slice qx V.blocks.length dx] 30) := ⟨_, rfl⟩
  have hal : Below w8.heap.size w8 W9 := by rw [hW9]; exact below_alloc (Below.refl _ _) _
  have hb69 : Below w6.heap.size w6 W9 := below_then (below_then (below_then (below_alloc (below_alloc (Below.refl _ _) _) _) HO7.out.below) ho8.below) hal
  have hb9 := below_then hb6 hb69
  have HS9 := Lib.hid (HS6.out.keep hb69)
  have ho9 := ho8.past hal
  have h1 := ho9.1
  rw [hlen] at h1
  obtain ⟨N, hN⟩ : ∃ N, N = B.length := ⟨_, rfl⟩
  have hcell : ∀ (i : Nat) (z : EM.Ans), [x0, x1, x2, x3, x4, x5][i]? = some z → ∀ j, j < 5 → W9.cell? ⟨g8, (N + i) * 5 + j, none⟩ = (ansC z)[j]? := by
    intro i z hz j hj
    have hi6 := (List.getElem?_eq_some_iff.1 hz).1
    simp only [List.length_cons, List.length_nil] at hi6
    refine (h1.cellAt ((N + i) * 5 + j) (by omega)).trans (rcells_at ansE _ (N + i) z j ?_ hj)
    rw [List.getElem?_append_right (by rw [EM.runL_len]; omega), EM.runL_len, ← hN, Nat.add_sub_cancel_left]
    exact hz
  rw [← hN] at hlc8 hbl ⊢
  rw [← hW9]
  have HCELL := Lib.hid hcell
  have HN := Lib.hid hN
  have hn1 : ¬ cap8 = N := by omega
  have hn2 : N ≤ cap8 := by omega
  have hn3 : N ≤ N + 6 := by omega
  clear hcell hN h1 ho9 hal hW9 ho8 hv8 HO7 HCR HFL HFO HX hlen hb69 HS6 HRB6 hb6
  have hi0 : (0 : Int) ≤ (b : Int) := by omega
  have hbn : b < 8 := by omega
  obtain ⟨p6, c6, rfl, _, hp6, hc6⟩ := HS9.out
  have HC6 := Lib.hid hc6
  have HCASE' := HCASE.out
  rw [reads8_len]
  clear hc6 hp6 HCASE HS9
  rcases HCASE' with ⟨k4, hs5⟩ | ⟨k4, hs1, k3, k5⟩
  · obtain ⟨b6, o6, rfl, _, s0⟩ := HC6.out b x5.data hs5
    have c4 := HCELL.out 4 x4 rfl 0 (by decide)
    have c5' := HCELL.out 5 x5 rfl 1 (by decide)
    simp only [ansC, List.getElem?_cons_zero, List.getElem?_cons_succ] at c4 c5'
    rw [k4, show (N + 4) * 5 + 0 = N * 5 + 20 by omega] at c4
    have c5'' := c5'
    rw [show (N + 5) * 5 + 1 = N * 5 + 25 + 1 by omega] at c5'
    rw [show (N + 5) * 5 + 1 = N * 5 + 26 by omega] at c5''
    clear k4 hs5 HC6 HCELL
    go_wp2
    go_quiet (fail)
    go_wp2
    go_ret
    exact ⟨rfl, below_dr hb9 _⟩
  · obtain ⟨b6, o6, rfl, _, s0⟩ := HC6.out b x1.data hs1
    have c4 := HCELL.out 4 x4 rfl 0 (by decide)
    have c1' := HCELL.out 1 x1 rfl 1 (by decide)
    have c3' := HCELL.out 3 x3 rfl 1 (by decide)
    have c5' := HCELL.out 5 x5 rfl 1 (by decide)
    simp only [ansC, List.getElem?_cons_zero, List.getElem?_cons_succ] at c4 c1' c3' c5'
    rw [k4, show (N + 4) * 5 + 0 = N * 5 + 20 by omega] at c4
    rw [k3] at c3'
    rw [k5] at c5'
    have c1'' := c1'
    have c3'' := c3'
    have c5'' := c5'
    rw [show (N + 1) * 5 + 1 = N * 5 + 5 + 1 by omega] at c1'
    rw [show (N + 1) * 5 + 1 = N * 5 + 6 by omega] at c1''
    rw [show (N + 3) * 5 + 1 = N * 5 + 15 + 1 by omega] at c3'
    rw [show (N + 3) * 5 + 1 = N * 5 + 16 by omega] at c3''
    rw [show (N + 5) * 5 + 1 = N * 5 + 25 + 1 by omega] at c5'
    rw [show (N + 5) * 5 + 1 = N * 5 + 26 by omega] at c5''
    clear k4 hs1 k3 k5 HC6 HCELL
    go_wp2
    go_quiet (fail)
    go_wp2
    go_ret
    exact ⟨rfl, below_dr hb9 _⟩
end Go.Proofs.YthjaanhkmfiajacGreatDoor.topSees
