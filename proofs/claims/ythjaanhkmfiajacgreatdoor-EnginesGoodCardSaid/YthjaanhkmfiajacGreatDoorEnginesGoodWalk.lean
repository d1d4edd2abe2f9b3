/- EnginesGood, walked. No condition but that the numbers are ints. -/
import Derived.Test.YthjaanhkmfiajacGreatDoorTopBase
import Derived.Test.YthjaanhkmfiajacGreatDoorKeepEqualZ
import Derived.Test.YthjaanhkmfiajacGreatDoorEngRunBad
import Derived.Test.YthjaanhkmfiajacGreatDoorVolCheck
namespace Go.Proofs.YthjaanhkmfiajacGreatDoor.enginesGood
open Go Go.RowKit

theorem tail_of {n : Nat} (hn : 1 ≤ n ∧ n ≤ 32) (A : List EM.Act) {k : Int} (hk : 9 < k) :
    (EM.runL (EM.start n) (A ++ [EM.act k, EM.readA n])).1.now = (EM.runL (EM.start n) A).1.now ∧
    ∃ y z : EM.Ans, (EM.runL (EM.start n) (A ++ [EM.act k, EM.readA n])).2[A.length]? = some y ∧ (EM.runL (EM.start n) (A ++ [EM.act k, EM.readA n])).2[A.length + 1]? = some z ∧ y.code = 3 ∧ z.code = 6 := by
  have hI := EM.runL_inv A (EM.Inv.start hn)
  obtain ⟨h1, h2, h3⟩ := EM.failing hI hk
  rw [EM.runL_append]
  generalize (EM.runL (EM.start n) A).1 = s at hI h1 h2 h3 ⊢
  have e : EM.runL s [EM.act k, EM.readA n] = (s, [EM.err 3, (EM.step s (EM.readA n)).2]) := by
    show ((EM.step (EM.step s (EM.act k)).1 (EM.readA n)).1, [(EM.step s (EM.act k)).2, (EM.step (EM.step s (EM.act k)).1 (EM.readA n)).2]) = _
    rw [h1, h2]
  rw [e]
  refine ⟨rfl, EM.err 3, (EM.step s (EM.readA n)).2, ?_, ?_, rfl, h3⟩
  · rw [List.getElem?_append_right (by rw [EM.runL_len]; omega), EM.runL_len, Nat.sub_self]; rfl
  · rw [List.getElem?_append_right (by rw [EM.runL_len]; omega), EM.runL_len, Nat.add_sub_cancel_left]; rfl

/-- Run, what is needed of it -/
def RunsN (n : Nat) (l : List EM.Act) (w : World) (e : Ending) (w' : World) : Prop :=
  ∃ v x y, e = .returned (.tuple #[v, .agg #[x, y], .int .i64 0]) ∧ RowsAt ansC 5 w' v (EM.runL (EM.start n) l).2 ∧ VolTy w' x y (EM.runL (EM.start n) l).1.now ∧ Below w.heap.size w w'
theorem Run_at (n : Nat) (hn : 1 ≤ n ∧ n ≤ 32) (u : Value) (l : List EM.Act) (hl : l.length ≤ 300) (hok : ∀ a ∈ l, ActOk a) (w : World) (hu : ActsAt w u l) : Calls Tryz.prog 14 #[.int .i64 (n : Int), u] w (RunsN n l w) := by
  refine (Run_ok n hn u l hl hok w hu).mono ?_
  rintro e w' ⟨v, x, y, rfl, ho, hv⟩
  exact ⟨v, x, y, rfl, ho.rows ansE (by rw [EM.runL_len]; omega), hv, ho.below⟩

set_option maxRecDepth 100000 in
set_option maxHeartbeats 4000000 in
theorem walk (v : Value) (L : List Rw) (kd bl : Int) (w : World) (h : RawsAt w v L) (hok : ∀ r ∈ L, RwOk r) (hkd : -9223372036854775808 ≤ kd ∧ kd ≤ 9223372036854775807) (hbl : -9223372036854775808 ≤ bl ∧ bl ≤ 9223372036854775807) :
    Calls Tryz.prog 3 #[v, .int .i64 kd, .int .i64 bl] w fun e w' => e = .returned (.bool true) ∧ Below w.heap.size w w' := by
  obtain ⟨i0, hi, hz0, hz1, hz2⟩ := info_parts infoAct
  have hA : Calls Tryz.prog 12 #[v, .int .i64 80] w (ActsRet 80 w) := Acts_any v L 80 (by omega) w h hok
  obtain ⟨kb, hkb, hkb9⟩ := pick_nat bl 9 (by omega)
  obtain ⟨ko, hko, hko9⟩ := pick_nat kd 9 (by omega)
  have hP := fun w => picked_any bl 9 hbl (by omega) w
  have hQ := fun w => picked_any kd 9 hkd (by omega) w
  rw [hkb] at hP
  rw [hko] at hQ
  have HP := Lib.hid hP
  have HQ := Lib.hid hQ
  have HA := Lib.hid hA
  have hwn := IntWalk.i64_in (8 + (kb : Int)) (by omega)
  have hwo := IntWalk.i64_in (10 + (ko : Int)) (by omega)
  clear h hok hA hkd hbl hkb hko hP hQ
  go_enter Tryz.func3, Tryz.ntmps3
  go_upto_region 3 with (first
    | (go_at_call 12; refine HA.out.mono ?_; rintro e w1 ⟨v1, A, rfl, ho1, hl1, hg1⟩; obtain ⟨p1, c1, rfl⟩ := ho1.isSlice)
    | (go_at_call 13; refine (HP.out _).mono ?_; rintro e wp ⟨rfl, rfl⟩))
  have hra1 := ho1.rows actE (by omega)
  have hb1 : Below w.heap.size w w1 := ho1.below
  obtain ⟨n, hn, hn8, hn16⟩ : ∃ n : Nat, (8 : Int) + (kb : Int) = (n : Int) ∧ 8 ≤ n ∧ n ≤ 16 := ⟨8 + kb, by omega, by omega, by omega⟩
  try rw [hwn]
  rw [hn]
  have HG := Lib.hid hg1
  have HRA1 := Lib.hid hra1
  clear ho1 hg1 hra1 HA HP hwn hn
  go_upto_region 4 with (go_at_call 14; refine (Run_at n (by omega) _ A (by omega) (fun a ha => (HG.out a ha).ok) _ HRA1.out).mono ?_; rintro e w2 ⟨v2, x2, y2, rfl, ha2, hv2, hb12⟩; obtain ⟨px, cx, qx, dx, rfl, rfl⟩ := hv2.slices; obtain ⟨pa2, ca2, rfl, _⟩ := id ha2)
  rw [EM.runL_len] at ha2 ⊢
  obtain ⟨V, hV⟩ : ∃ V, V = (EM.runL (EM.start n) A).1.now := ⟨_, rfl⟩
  have hvo := (EM.runL_inv A (EM.Inv.start (n := n) (by omega))).now.1
  rw [← hV] at hvo hv2 ⊢
  obtain ⟨W3, hW3⟩ : ∃ W, W = w2.alloc (.cells #[.slice px V.items.length cx, .slice qx V.blocks.length dx] 30) := ⟨_, rfl⟩
  obtain ⟨G10, hG10⟩ : ∃ G, G = w2.heap.size := ⟨_, rfl⟩
  have hal : Below w2.heap.size w2 W3 := by rw [hW3]; exact below_alloc (Below.refl _ _) _
  have hbx : VBox W3 G10 (.slice px V.items.length cx) (.slice qx V.blocks.length dx) := by rw [hW3, hG10]; exact VBox.new _ _ _
  have hb13 : Below w1.heap.size w1 W3 := below_then hb12 hal
  have hb3 := below_then hb1 hb13
  rw [← hW3, ← hG10]
  have HVV := Lib.hid hV
  have HVO := Lib.hid hvo
  have HV3 := Lib.hid (hv2.keep hal)
  have HBX := Lib.hid hbx
  have HRA3 := Lib.hid (HRA1.out.keep hb13)
  clear hV hvo hv2 hW3 hG10 hal hbx hb13 hb12 ha2 HRA1
  go_upto_region 5 with (first
    | (go_at_call 15; refine (CloneA_any _ A _ HRA3.out (by omega)).mono ?_; rintro e w4 ⟨v4, rfl, ho4⟩; obtain ⟨p4, c4, rfl⟩ := ho4.isSlice; have HO4 := Lib.hid ho4; clear ho4)
    | (go_at_call 13; refine (HQ.out _).mono ?_; rintro e wp ⟨rfl, rfl⟩)
    | (at_builtin; refine wpList_own_rs actE rfl (.tmp 36) (.tmp 43) 23 rfl _ 36 i0 _ 40 Tryz.underlying23 hi hz0 rfl hz1 hz2 _ A rfl W3 [EM.act (10 + (ko : Int)), EM.readA (n : Int)] _ (HO4.out.past (below_alloc (Below.refl _ _) _)) (rows_new actE _ (by simp) _ _ _ rfl) rfl (by simp; omega) (by simp; omega) ?_; intro v5 w5 ho5 hg5; have HO5 := Lib.hid ho5; clear ho5 hg5 HO4)
    | (go_at_call 14; refine (Run_at n (by omega) _ (A ++ [EM.act (10 + (ko : Int)), EM.readA (n : Int)]) (by simp; omega) (ActOk.append HG.out (by intro a ha; simp at ha; rcases ha with rfl | rfl; exact kind_ok (by omega); exact act_ok ⟨by omega, by omega⟩ ⟨by omega, by omega⟩ ⟨by omega, by omega⟩)) _ (HO5.out.rows actE (by simp; omega))).mono ?_; rintro e w6 ⟨v6, x6, y6, rfl, ha6, hv6, hb56⟩; obtain ⟨ht, y, z, hy, hz, hyc, hzc⟩ := tail_of (n := n) (by omega) A (k := 10 + (ko : Int)) (by omega); rw [ht, ← HVV.out] at hv6; obtain ⟨p6, c6, q6, d6, rfl, rfl⟩ := hv6.slices; obtain ⟨bz, oz, cz, rfl, hbz, y0, _, _, _, _⟩ := ans_cells ha6 hy; obtain ⟨bz', oz', cz', he, _, z0, _, _, _, _⟩ := ans_cells ha6 hz; cases he; rw [EM.runL_len, List.length_append]))
  rw [hyc] at y0
  rw [hzc] at z0
  obtain ⟨W7, hW7⟩ : ∃ W, W = w6.alloc (.cells #[.slice p6 V.items.length c6, .slice q6 V.blocks.length d6] 30) := ⟨_, rfl⟩
  obtain ⟨G13, hG13⟩ : ∃ G, G = w6.heap.size := ⟨_, rfl⟩
  have hal : Below w6.heap.size w6 W7 := by rw [hW7]; exact below_alloc (Below.refl _ _) _
  have hbx7 : VBox W7 G13 (.slice p6 V.items.length c6) (.slice q6 V.blocks.length d6) := by rw [hW7, hG13]; exact VBox.new _ _ _
  have hb37 : Below W3.heap.size W3 W7 := below_then (below_then HO5.out.below hb56) hal
  have hb7 := below_then hb3 hb37
  have hbx10 := HBX.out.keep hb37
  have y7 := (hal.cell (p := ⟨bz, _, none⟩) hbz).trans y0
  have z7 := (hal.cell (p := ⟨bz, _, none⟩) hbz).trans z0
  have hbz7 := Nat.lt_of_lt_of_le hbz hal.size
  have HV7 := Lib.hid (HV3.out.keep hb37)
  have HV67 := Lib.hid (hv6.keep hal)
  rw [← hW7, ← hG13]
  have hg10 := hbx10.lt
  have hg13 := hbx7.lt
  have hk : ∀ w', Below W7.heap.size W7 w' → w'.cell? ⟨G10, 0, none⟩ = some (.slice px V.items.length cx) ∧ w'.cell? ⟨G10, 1, none⟩ = some (.slice qx V.blocks.length dx) ∧ w'.cell? ⟨G13, 0, none⟩ = some (.slice p6 V.items.length c6) ∧ w'.cell? ⟨G13, 1, none⟩ = some (.slice q6 V.blocks.length d6) ∧ w'.cell? ⟨bz, oz + A.length * 5, none⟩ = some (.int .i64 3) ∧ w'.cell? ⟨bz, oz + (A.length + 1) * 5, none⟩ = some (.int .i64 6) ∧ G10 < w'.heap.size ∧ G13 < w'.heap.size ∧ bz < w'.heap.size := by
    intro w' hb
    obtain ⟨a0, a1, _, _⟩ := (hbx10.keep hb).at
    obtain ⟨b0, b1, _, _⟩ := (hbx7.keep hb).at
    have hs := hb.size
    exact ⟨a0, a1, b0, b1, (hb.cell (p := ⟨bz, _, none⟩) hbz7).trans y7, (hb.cell (p := ⟨bz, _, none⟩) hbz7).trans z7, by omega, by omega, by omega⟩
  have HK := Lib.hid hk
  obtain ⟨row, hrow⟩ : ∃ row, row = madeCells (Value.agg #[.int .i64 0, .int .i64 0, .string ⟨#[]⟩, .int .i64 0]).cells (301 * 4) := ⟨_, rfl⟩
  have hmk : ∀ (w : World), (Instr.makeSlice 23 (.int .i64 301) (.int .i64 301)).run Tryz.prog w = .ok (.slice (some ⟨w.heap.size, 0, none⟩) 301 301) (w.alloc (.cells row 36)) := by
    intro w
    rw [run_make w _ _ i0 _ Tryz.underlying23 hi hz0 .i64 .i64 301 301 (by omega) (Int.le_refl _) (by rw [hz2]; omega) (by omega), hz1, hrow]
    rfl
  have hwk := IntWalk.i64_in ((A.length : Int) + 1) (by omega)
  have hwl := IntWalk.i64_in ((A.length : Int) + 2) (by omega)
  have hi0 : (0 : Int) ≤ (A.length : Int) := by omega
  have hi1 : (A.length : Int) < (A.length : Int) + 2 := by omega
  have hj0 : (0 : Int) ≤ (A.length : Int) + 1 := by omega
  have hj1 : (A.length : Int) + 1 < (A.length : Int) + 2 := by omega
  clear hrow hi hz0 hz1 hz2 hy hz hyc hzc ht ha6 hv6 y0 z0 hbz hal hb37 hb3 HV3 HRA3 HO5 hb56 hW7 hG13 hbx7 hbx10 HBX HQ HVV y7 z7 hbz7 hk
  go_upto_region 6 with (go_at_call 14; refine (Run_range 0 (by omega) _ _).mono ?_; rintro e w8 ⟨rfl, hb78⟩)
  have hb8 := below_then hb7 hb78
  go_upto_region 7 with (go_at_call 14; refine (Run_size n (by omega) _ 301 301 (by omega) _).mono ?_; rintro e w9 ⟨rfl, hb89⟩)
  have hb710 : Below W7.heap.size W7 (w9.alloc (.cells #[.slice none 0 0, .slice none 0 0] 30)) := below_alloc (below_then (below_alloc (below_alloc hb78 _) _) hb89) _
  obtain ⟨W10, hW10⟩ : ∃ W, W = w9.alloc (.cells #[.slice none 0 0, .slice none 0 0] 30) := ⟨_, rfl⟩
  rw [← hW10] at hb710 ⊢
  obtain ⟨a0, a1, a2, a3, a4, a5, a6, a7, a8⟩ := HK.out _ hb710
  clear hW10 hb89 hb78 hb8 hmk
  go_wp2_with (first
    | (go_at_call 16; refine (VCheck_any _ V _ (HV7.out.keep hb710).at HVO.out.wideZ).mono ?_; rw [vchk_ok HVO.out]; rintro e w11 ⟨rfl, hb11⟩; have hb711 := below_then hb710 hb11; obtain ⟨b0, b1, b2, b3, b4, b5, b6, b7, b8⟩ := HK.out _ hb711)
    | (go_at_call 17; refine (EqualI_any _ _ V.items _ (HV7.out.keep hb711).items (HV67.out.keep hb711).items).mono ?_; rintro e w12 ⟨rfl, hb12⟩; have hb712 := below_then hb711 hb12; obtain ⟨d0, d1, d2, d3, d4, d5, d6, d7, d8⟩ := HK.out _ hb712)
    | (go_at_call 18; refine (EqualZ_any _ _ V.blocks _ (HV7.out.keep hb712).ints (HV67.out.keep hb712).ints).mono ?_; rintro e w13 ⟨rfl, hb13⟩; have hb713 := below_then hb712 hb13))
  go_ret
  exact ⟨rfl, below_then hb7 hb713⟩
end Go.Proofs.YthjaanhkmfiajacGreatDoor.enginesGood
