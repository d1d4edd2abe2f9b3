/- TopMarked, walked. No condition but that the numbers are ints. -/
import Derived.Test.YthjaanhkmfiajacGreatDoorTopBase
namespace Go.Proofs.YthjaanhkmfiajacGreatDoor.topMarked
open Go Go.RowKit

set_option maxRecDepth 100000 in
set_option maxHeartbeats 2000000 in
theorem walk (v : Value) (L : List Rw) (n : Int) (w : World) (h : RawsAt w v L) (hok : ∀ r ∈ L, RwOk r) (hn : -9223372036854775808 ≤ n ∧ n ≤ 9223372036854775807) :
    Calls Tryz.prog 7 #[v, .int .i64 n] w fun e w' => e = .returned (.bool true) ∧ Below w.heap.size w w' := by
  obtain ⟨i0, hi, hz0, hz1, hz2⟩ := info_parts infoAct
  have hA : Calls Tryz.prog 12 #[v, .int .i64 60] w (ActsRet 60 w) := Acts_any v L 60 (by omega) w h hok
  obtain ⟨kk, hkk, hk50⟩ := pick_nat n 50 (by omega)
  have hP := fun w => Picked_any n 50 hn (by omega) w
  rw [hkk] at hP
  have HP := Lib.hid hP
  have HA := Lib.hid hA
  clear h hok hA hn hkk hP
  go_enter Tryz.func7, Tryz.ntmps7
  go_upto_region 2 with (go_at_call 12; refine HA.out.mono ?_; rintro e w1 ⟨v1, A, rfl, ho1, hl1, hg1⟩; obtain ⟨p1, c1, rfl⟩ := ho1.isSlice)
  have hra1 := ho1.rows actE (by omega)
  have hb1 : Below w.heap.size w w1 := ho1.below
  have HG := Lib.hid hg1
  have HRA1 := Lib.hid hra1
  clear ho1 hg1 hra1 HA
  go_upto_region 3 with (go_at_call 26; refine (reads_at _ A (by omega) (fun a ha => (HG.out a ha).ok) _ HRA1.out).mono ?_; rintro e w2 ⟨v2, rfl, hs2, hb12⟩)
  have hb2 := below_then hb1 hb12
  have HRA2 := Lib.hid (HRA1.out.keep hb12)
  have HS2 := Lib.hid hs2
  clear hs2 hb12 HRA1
  go_upto_region 4 with (first
    | (go_at_call 15; refine (CloneA_any _ A _ HRA2.out (by omega)).mono ?_; rintro e w7 ⟨v7, rfl, ho7⟩; obtain ⟨p7, c7, rfl⟩ := ho7.isSlice; have HO7 := Lib.hid ho7; clear ho7)
    | (go_at_call 23; refine (HP.out _).mono ?_; rintro e wp ⟨rfl, hb3p⟩; have HOP := Lib.hid (HO7.out.past hb3p); clear hb3p)
    | (go_at_call 22; refine (crash_c (kk : Int) _).mono ?_; rintro e w8 ⟨rfl, hb78⟩; have HO8 := Lib.hid (HOP.out.past hb78); clear hb78)
    | (at_builtin; refine wpList_own_rs actE rfl (.tmp 20) (.tmp 26) 23 rfl _ 36 i0 _ 40 Tryz.underlying23 hi hz0 rfl hz1 hz2 _ A rfl w2 [EM.act 8, EM.act 9, EM.crash (kk : Int)] _ (HO8.out.past (below_alloc (Below.refl _ _) _)) (rows_new actE _ (by simp) _ _ _ rfl) rfl (by simp; omega) (by simp; omega) ?_; intro v9 w9 ho9 hg9; have HO9 := Lib.hid ho9; clear ho9 hg9 HO8 HO7 HOP)
    | (go_at_call 21; refine (run_at _ (A ++ [EM.act 8, EM.act 9, EM.crash (kk : Int)]) (by simp; omega) (ActOk.append HG.out (by intro a ha; simp at ha; rcases ha with rfl | rfl | rfl; exact kind_ok (by omega); exact kind_ok (by omega); exact crash_ok (by omega))) _ (HO9.out.rows actE (by simp; omega))).mono ?_; rintro e w10 ⟨v10, x10, y10, rfl, ha10, hv10, hb910⟩; obtain ⟨px, cx, qx, dx, rfl, rfl⟩ := hv10.slices; obtain ⟨hrd, y, z, hy, hz, hyl, hzc⟩ := marked_reads A (k := (kk : Int)) (by omega); obtain ⟨bz, oz, cz, rfl, hbz, _, _, _, y0, _⟩ := ans_cells ha10 hy; obtain ⟨bz', oz', cz', he, _, _, _, _, _, z0⟩ := ans_cells ha10 hz; cases he; rw [EM.runL_len, List.length_append]))
  have hiv := (inv8 (A ++ [EM.act 8, EM.act 9, EM.crash (kk : Int)])).now.1
  change rds (EM.runL (EM.start 8) (A ++ [EM.act 8, EM.act 9, EM.crash (kk : Int)])).1.now = reads8 A at hrd
  generalize (EM.runL (EM.start 8) (A ++ [EM.act 8, EM.act 9, EM.crash (kk : Int)])).1.now = V at hrd hiv hv10 ⊢
  rw [hyl] at y0
  rw [hzc] at z0
  obtain ⟨W11, hW11⟩ : ∃ W, W = w10.alloc (.cells #[.slice px V.items.length cx, .slice qx V.blocks.length dx] 30) := ⟨_, rfl⟩
  obtain ⟨G9, hG9⟩ : ∃ G, G = w10.heap.size := ⟨_, rfl⟩
  have hal : Below w10.heap.size w10 W11 := by rw [hW11]; exact below_alloc (Below.refl _ _) _
  have hbx : VBox W11 G9 (.slice px V.items.length cx) (.slice qx V.blocks.length dx) := by rw [hW11, hG9]; exact VBox.new _ _ _
  obtain ⟨g0, g1, _, _⟩ := hbx.at
  have hb211 : Below w2.heap.size w2 W11 := below_then (below_then HO9.out.below hb910) hal
  have hb11 := below_then hb2 hb211
  have y1 := (hal.cell (p := ⟨bz, _, none⟩) hbz).trans y0
  have z1 := (hal.cell (p := ⟨bz, _, none⟩) hbz).trans z0
  have hbz1 := Nat.lt_of_lt_of_le hbz hal.size
  have HS211 := Lib.hid (HS2.out.keep hb211)
  have HV11 := Lib.hid (hv10.keep hal)
  have HIV := Lib.hid hiv
  have HRD := Lib.hid hrd
  rw [← hW11, ← hG9]
  have hi0 : (0 : Int) ≤ (A.length : Int) + 1 := by omega
  have hi1 : (A.length : Int) + 1 < (A.length : Int) + 3 := by omega
  have hj0 : (0 : Int) ≤ (A.length : Int) + 2 := by omega
  have hj1 : (A.length : Int) + 2 < (A.length : Int) + 3 := by omega
  have hwk := IntWalk.i64_in ((A.length : Int) + 1) (by omega)
  have hwl := IntWalk.i64_in ((A.length : Int) + 2) (by omega)
  clear hy hz hyl hzc ha10 hv10 y0 z0 hbz hal hb211 hb2 HS2 HRA2 HO9 hb910 hW11 hG9 hiv hrd hbx
  go_wp2_with (first
    | (go_at_call 25; refine (Reads_any _ V _ HV11.out.at HIV.out).mono ?_; rintro e w12 ⟨v12, rfl, ho12⟩; have hb12 : Below W11.heap.size W11 w12 := ho12.below; have y2 := (hb12.cell (p := ⟨bz, _, none⟩) hbz1).trans y1; have z2 := (hb12.cell (p := ⟨bz, _, none⟩) hbz1).trans z1; have hbz2 := Nat.lt_of_lt_of_le hbz1 hb12.size; have hs12 := ho12.ints (by rw [HRD.out, reads8_len]; decide); rw [HRD.out] at hs12; have HS12 := Lib.hid hs12; have HS212 := Lib.hid (HS211.out.keep hb12); clear ho12 hs12)
    | (go_at_call 24; refine (EqualS_any _ _ (reads8 A) _ HS212.out HS12.out).mono ?_; rintro e w13 ⟨rfl, hb13⟩; have y3 := (hb13.cell (p := ⟨bz, _, none⟩) hbz2).trans y2; have z3 := (hb13.cell (p := ⟨bz, _, none⟩) hbz2).trans z2))
  go_ret
  exact ⟨rfl, below_then (below_then hb11 hb12) hb13⟩
end Go.Proofs.YthjaanhkmfiajacGreatDoor.topMarked
