/- TopAll, walked. No condition but that the numbers are ints. -/
import Derived.Test.YthjaanhkmfiajacGreatDoorTopBase
namespace Go.Proofs.YthjaanhkmfiajacGreatDoor.topAll
open Go Go.RowKit

set_option maxRecDepth 100000 in
set_option maxHeartbeats 2000000 in
theorem walk (v : Value) (L : List Rw) (w : World) (h : RawsAt w v L) (hok : ∀ r ∈ L, RwOk r) :
    Calls Tryz.prog 6 #[v] w fun e w' => e = .returned (.bool true) ∧ Below w.heap.size w w' := by
  obtain ⟨i0, hi, hz0, hz1, hz2⟩ := info_parts infoAct
  have hA : Calls Tryz.prog 12 #[v, .int .i64 60] w (ActsRet 60 w) := Acts_any v L 60 (by omega) w h hok
  have HA := Lib.hid hA
  clear h hok hA
  go_enter Tryz.func6, Tryz.ntmps6
  go_upto_region 2 with (go_at_call 12; refine HA.out.mono ?_; rintro e w1 ⟨v1, A, rfl, ho1, hl1, hg1⟩; obtain ⟨p1, c1, rfl⟩ := ho1.isSlice)
  have hra1 := ho1.rows actE (by omega)
  have hb1 : Below w.heap.size w w1 := ho1.below
  have HG := Lib.hid hg1
  have HRA1 := Lib.hid hra1
  clear ho1 hg1 hra1
  go_upto_region 3 with (go_at_call 26; refine (reads_at _ A (by omega) (fun a ha => (HG.out a ha).ok) _ HRA1.out).mono ?_; rintro e w2 ⟨v2, rfl, hs2, hb12⟩)
  have hb2 := below_then hb1 hb12
  have HRA2 := Lib.hid (HRA1.out.keep hb12)
  have HS2 := Lib.hid hs2
  clear hs2 hb12 HRA1
  go_upto_region 4 with (first
    | (go_at_call 15; refine (CloneA_any _ A _ HRA2.out (by omega)).mono ?_; rintro e w3 ⟨v3, rfl, ho3⟩; obtain ⟨p3, c3, rfl⟩ := ho3.isSlice; have HO3 := Lib.hid ho3; clear ho3)
    | (go_at_call 22; refine (crash_c 4000 _).mono ?_; rintro e w4 ⟨rfl, hb34⟩; have HO4 := Lib.hid (HO3.out.past hb34); clear hb34)
    | (at_builtin; refine wpList_own_r actE rfl (.tmp 20) (.tmp 22) 23 rfl _ 36 i0 _ 40 Tryz.underlying23 hi hz0 rfl hz1 hz2 _ A rfl w2 _ (EM.crash 4000) _ rfl HO4.out _ rfl (by simp) (by omega) (by omega) ?_; intro v5 w5 ho5 hg5; have HO5 := Lib.hid ho5; clear ho5 hg5 HO4 HO3)
    | (go_at_call 26; refine (reads_at _ (A ++ [EM.crash 4000]) (by simp; omega) (ActOk.append HG.out (by simpa using crash_ok (by omega))) _ (HO5.out.rows actE (by simp; omega))).mono ?_; rintro e w6 ⟨v6, rfl, hs6, hb56⟩))
  rw [all_reads] at hs6
  have hb26 : Below w2.heap.size w2 w6 := below_then HO5.out.below hb56
  have hb6 := below_then hb2 hb26
  have HRA6 := Lib.hid (HRA2.out.keep hb26)
  have HS6 := Lib.hid hs6
  have HS26 := Lib.hid (HS2.out.keep hb26)
  clear hs6 hb56 hb26 HRA2 HS2 HO5
  go_upto_region 5 with (first
    | (go_at_call 15; refine (CloneA_any _ A _ HRA6.out (by omega)).mono ?_; rintro e w7 ⟨v7, rfl, ho7⟩; obtain ⟨p7, c7, rfl⟩ := ho7.isSlice; have HO7 := Lib.hid ho7; clear ho7)
    | (go_at_call 22; refine (crash_c 4000 _).mono ?_; rintro e w8 ⟨rfl, hb78⟩; have HO8 := Lib.hid (HO7.out.past hb78); clear hb78)
    | (at_builtin; refine wpList_own_rs actE rfl (.tmp 29) (.tmp 32) 23 rfl _ 36 i0 _ 40 Tryz.underlying23 hi hz0 rfl hz1 hz2 _ A rfl w6 [EM.crash 4000, EM.act 4] _ (HO8.out.past (below_alloc (Below.refl _ _) _)) (rows_new actE _ (by decide) _ _ _ rfl) rfl (by simp; omega) (by simp; omega) ?_; intro v9 w9 ho9 hg9; have HO9 := Lib.hid ho9; clear ho9 hg9 HO8 HO7)
    | (go_at_call 21; refine (run_at _ (A ++ [EM.crash 4000, EM.act 4]) (by simp; omega) (ActOk.append HG.out (by intro a ha; simp at ha; rcases ha with rfl | rfl; exact crash_ok (by omega); exact kind_ok (by omega))) _ (HO9.out.rows actE (by simp; omega))).mono ?_; rintro e w10 ⟨v10, x10, y10, rfl, ha10, hv10, hb910⟩; obtain ⟨px, cx, qx, dx, rfl, rfl⟩ := hv10.slices; obtain ⟨z, hz, hzc⟩ := all_answer A; obtain ⟨bz, oz, cz, rfl, hbz, z0, _, _, _, _⟩ := ans_cells ha10 hz; rw [EM.runL_len, List.length_append]))
  rw [hzc] at z0
  obtain ⟨W11, hW11⟩ : ∃ W, W = w10.alloc (.cells #[.slice px (EM.runL (EM.start 8) (A ++ [EM.crash 4000, EM.act 4])).1.now.items.length cx, .slice qx (EM.runL (EM.start 8) (A ++ [EM.crash 4000, EM.act 4])).1.now.blocks.length dx] 30) := ⟨_, rfl⟩
  have hal : Below w10.heap.size w10 W11 := by rw [hW11]; exact below_alloc (Below.refl _ _) _
  have hb611 : Below w6.heap.size w6 W11 := below_then (below_then HO9.out.below hb910) hal
  have hb11 := below_then hb6 hb611
  have z1 := (hal.cell (p := ⟨bz, _, none⟩) hbz).trans z0
  have hbz1 := Nat.lt_of_lt_of_le hbz hal.size
  have HS11 := Lib.hid (HS6.out.keep hb611)
  have HS211 := Lib.hid (HS26.out.keep hb611)
  rw [← hW11]
  have hi0 : (0 : Int) ≤ (A.length : Int) + 1 := by omega
  have hi1 : (A.length : Int) + 1 < (A.length : Int) + 2 := by omega
  have hwk := IntWalk.i64_in ((A.length : Int) + 1) (by omega)
  clear hz hzc ha10 hv10 z0 hbz hal hb611 hb6 HS6 HS26 HRA6 HO9 hb910 HA hW11
  go_wp2_with (go_at_call 24; refine (EqualS_any _ _ (reads8 A) _ HS211.out HS11.out).mono ?_; rintro e w12 ⟨rfl, hb12⟩; have z2 := (hb12.cell (p := ⟨bz, _, none⟩) hbz1).trans z1)
  go_ret
  exact ⟨rfl, below_then hb11 hb12⟩
end Go.Proofs.YthjaanhkmfiajacGreatDoor.topAll
