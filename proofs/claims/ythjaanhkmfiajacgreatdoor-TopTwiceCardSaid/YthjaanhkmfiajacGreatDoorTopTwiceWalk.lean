/- TopTwice, walked. No condition but that the numbers are ints. -/
import Derived.Test.YthjaanhkmfiajacGreatDoorTopBase
import Derived.Test.YthjaanhkmfiajacGreatDoorQuietEq
namespace Go.Proofs.YthjaanhkmfiajacGreatDoor.topTwice
open Go Go.RowKit

theorem twice_of (A : List EM.Act) {k : Int} (hk : 0 ≤ k) : (EM.runL (EM.start 8) (A ++ [EM.crash k] ++ [EM.crash 0])).1.now = (EM.runL (EM.start 8) (A ++ [EM.crash k])).1.now ∧
    ∃ y z : EM.Ans, (EM.runL (EM.start 8) (A ++ [EM.crash k] ++ [EM.crash 0])).2[A.length + 1]? = some y ∧ (EM.runL (EM.start 8) (A ++ [EM.crash k])).2[A.length]? = some z ∧ y.count = z.count := by
  obtain ⟨h1, h2⟩ := EM.twice (EM.runL (EM.start 8) A).1 hk (inv8 A).last
  rw [List.append_assoc, run_append, run_append]
  exact ⟨h1, _, _, ans_at (i := 1) rfl, ans_at (i := 0) rfl, h2⟩

set_option maxRecDepth 100000 in
set_option maxHeartbeats 2000000 in
theorem walk (v : Value) (L : List Rw) (n : Int) (w : World) (h : RawsAt w v L) (hok : ∀ r ∈ L, RwOk r) (hn : -9223372036854775808 ≤ n ∧ n ≤ 9223372036854775807) :
    Calls Tryz.prog 11 #[v, .int .i64 n] w fun e w' => e = .returned (.bool true) ∧ Below w.heap.size w w' := by
  obtain ⟨i0, hi, hz0, hz1, hz2⟩ := info_parts infoAct
  have hA : Calls Tryz.prog 12 #[v, .int .i64 60] w (ActsRet 60 w) := Acts_any v L 60 (by omega) w h hok
  obtain ⟨kk, hkk, hk50⟩ := pick_nat n 200 (by omega)
  have hP := fun w => Picked_any n 200 hn (by omega) w
  rw [hkk] at hP
  have HP := Lib.hid hP
  have HA := Lib.hid hA
  clear h hok hA hn hkk hP
  go_enter Tryz.func11, Tryz.ntmps11
  go_upto_region 2 with (first
    | (go_at_call 12; refine HA.out.mono ?_; rintro e w1 ⟨v1, A, rfl, ho1, hl1, hg1⟩; obtain ⟨p1, c1, rfl⟩ := ho1.isSlice; have HO1 := Lib.hid ho1; have HG := Lib.hid hg1; clear ho1 hg1)
    | (go_at_call 23; refine (HP.out _).mono ?_; rintro e wp ⟨rfl, hb1p⟩; have HOP := Lib.hid (HO1.out.past hb1p); clear hb1p)
    | (go_at_call 22; refine (crash_c (kk : Int) _).mono ?_; rintro e w2 ⟨rfl, hb2⟩; have HO2 := Lib.hid (HOP.out.past hb2); clear hb2)
    | (at_builtin; refine wpList_own_r actE rfl (.tmp 16) (.tmp 20) 23 rfl _ 36 i0 _ 40 Tryz.underlying23 hi hz0 rfl hz1 hz2 _ A rfl w _ (EM.crash (kk : Int)) _ rfl HO2.out _ rfl (by simp) (by omega) (by omega) ?_; intro v3 w3 ho3 hg3; clear hg3 HO2 HOP HO1))
  obtain ⟨ht, y, z, hy, hz, hyz⟩ := twice_of A (k := (kk : Int)) (by omega)
  have hbok : ∀ a ∈ A ++ [EM.crash (kk : Int)], ActOk a := ActOk.append HG.out (by simpa using crash_ok (by omega))
  have hbl : (A ++ [EM.crash (kk : Int)]).length = A.length + 1 := by simp
  generalize A ++ [EM.crash (kk : Int)] = B at ht hy hz ho3 hbok hbl ⊢
  obtain ⟨p3, c3, rfl⟩ := ho3.isSlice
  have hb3 : Below w.heap.size w w3 := ho3.below
  have HRB3 := Lib.hid (ho3.rows actE (by omega))
  have HBOK := Lib.hid hbok
  obtain ⟨N, hN⟩ : ∃ N, N = A.length := ⟨_, rfl⟩
  rw [← hN] at hbl hy hz hl1
  have hivB := (inv8 B).now
  have hrun : ∀ (w : World) (u : Value), ActsAt w u B → Calls Tryz.prog 21 #[u] w (RunsRet B w) := fun w u hu => run_at u B (by omega) hbok w hu
  have hrun2 : ∀ (w : World) (u : Value), ActsAt w u (B ++ [EM.crash 0]) → Calls Tryz.prog 21 #[u] w (RunsRet (B ++ [EM.crash 0]) w) := fun w u hu => run_at u _ (by simp; omega) (by
    intro a ha
    rcases List.mem_append.1 ha with ha | ha
    · exact hbok a ha
    · rw [List.mem_singleton.1 ha]; exact crash_ok (by omega)) w hu
  unfold RunsRet at hrun hrun2
  have hXl : (EM.runL (EM.start 8) B).2.length = N + 1 := by rw [EM.runL_len, hbl]
  have hYl : (EM.runL (EM.start 8) (B ++ [EM.crash 0])).2.length = N + 2 := by rw [EM.runL_len, List.length_append, hbl]; rfl
  rw [ht] at hrun2
  generalize (EM.runL (EM.start 8) (B ++ [EM.crash 0])).2 = Y at hrun2 hy hYl
  generalize (EM.runL (EM.start 8) B).2 = X at hrun hz hXl
  generalize (EM.runL (EM.start 8) B).1.now = V at hrun hrun2 hivB
  have HRUN := Lib.hid hrun
  have HRUN2 := Lib.hid hrun2
  have HY := Lib.hid hy
  have HZ := Lib.hid hz
  have HYZ := Lib.hid hyz
  have HBL := Lib.hid hbl
  have hbl' : B.length ≤ 61 := by omega
  have HXL := Lib.hid hXl
  have HYL := Lib.hid hYl
  have HIV := Lib.hid hivB
  clear hrun hrun2 ho3 hbok HA HP HG hy hz hyz hXl hYl hivB hN ht hbl
  go_upto_region 3 with (go_at_call 21; refine (HRUN.out _ _ HRB3.out).mono ?_; rintro e w4 ⟨v4, x4, y4, rfl, ha4, hv4, hb34⟩; obtain ⟨px4, cx4, qx4, dx4, rfl, rfl⟩ := hv4.slices; obtain ⟨b4, o4, ca4, rfl, hbz4, _, _, _, _, z0⟩ := ans_cells ha4 HZ.out)
  rw [HXL.out]
  obtain ⟨G7, hG7⟩ : ∃ G, G = w4.heap.size := ⟨_, rfl⟩
  obtain ⟨W5, hW5⟩ : ∃ W, W = w4.alloc (.cells #[.slice px4 V.items.length cx4, .slice qx4 V.blocks.length dx4] 30) := ⟨_, rfl⟩
  have hal : Below w4.heap.size w4 W5 := by rw [hW5]; exact below_alloc (Below.refl _ _) _
  have hbx7 : VBox W5 G7 (.slice px4 V.items.length cx4) (.slice qx4 V.blocks.length dx4) := by rw [hW5, hG7]; exact VBox.new _ _ _
  have hb35 : Below w3.heap.size w3 W5 := below_then hb34 hal
  have hb5 := below_then hb3 hb35
  have z5 := (hal.cell (p := ⟨b4, _, none⟩) hbz4).trans z0
  have hbz5 := Nat.lt_of_lt_of_le hbz4 hal.size
  have HX5 := Lib.hid (ha4.keep hal)
  have HV5 := Lib.hid (hv4.keep hal)
  have HRB5 := Lib.hid (HRB3.out.keep hb35)
  rw [← hW5, ← hG7]
  clear hW5 hG7 hal ha4 hv4 hb34 z0 hbz4 HRB3 hb35 hb3
  go_upto_region 4 with (first
    | (go_at_call 15; refine (CloneA_any _ B _ HRB5.out (by omega)).mono ?_; rintro e w6 ⟨v6, rfl, ho6⟩; obtain ⟨p6, c6, rfl⟩ := ho6.isSlice; have HO6 := Lib.hid ho6; clear ho6)
    | (go_at_call 22; refine (crash_c 0 _).mono ?_; rintro e w7 ⟨rfl, hb67⟩; have HO7 := Lib.hid (HO6.out.past hb67); clear hb67)
    | (at_builtin; refine wpList_own_r actE rfl (.tmp 30) (.tmp 32) 23 rfl _ 36 i0 _ 40 Tryz.underlying23 hi hz0 rfl hz1 hz2 _ B rfl W5 _ (EM.crash 0) _ rfl HO7.out _ rfl (by simp) (by omega) (by omega) ?_; intro v8 w8 ho8 hg8; have HO8 := Lib.hid ho8; clear ho8 hg8 HO7 HO6)
    | (go_at_call 21; refine (HRUN2.out _ _ (HO8.out.rows actE (by simp; omega))).mono ?_; rintro e w9 ⟨v9, x9, y9, rfl, ha9, hv9, hb89⟩; obtain ⟨px9, cx9, qx9, dx9, rfl, rfl⟩ := hv9.slices; obtain ⟨b9, o9, ca9, rfl, hbz9, _, _, _, _, y0⟩ := ans_cells ha9 HY.out))
  rw [HYL.out]
  obtain ⟨G10, hG10⟩ : ∃ G, G = w9.heap.size := ⟨_, rfl⟩
  obtain ⟨W10, hW10⟩ : ∃ W, W = w9.alloc (.cells #[.slice px9 V.items.length cx9, .slice qx9 V.blocks.length dx9] 30) := ⟨_, rfl⟩
  have hal : Below w9.heap.size w9 W10 := by rw [hW10]; exact below_alloc (Below.refl _ _) _
  have hbx10 : VBox W10 G10 (.slice px9 V.items.length cx9) (.slice qx9 V.blocks.length dx9) := by rw [hW10, hG10]; exact VBox.new _ _ _
  have hb510 : Below W5.heap.size W5 W10 := below_then (below_then HO8.out.below hb89) hal
  have hb10 := below_then hb5 hb510
  have z10 := (hb510.cell (p := ⟨b4, _, none⟩) hbz5).trans z5
  have hbz4' := Nat.lt_of_lt_of_le hbz5 hb510.size
  have y10 := (hal.cell (p := ⟨b9, _, none⟩) hbz9).trans y0
  have hbz9' := Nat.lt_of_lt_of_le hbz9 hal.size
  have HX10 := Lib.hid (HX5.out.keep hb510)
  have HV10 := Lib.hid (HV5.out.keep hb510)
  have HU10 := Lib.hid (hv9.keep hal)
  have HRB10 := Lib.hid (HRB5.out.keep hb510)
  have hbx7' := hbx7.keep hb510
  rw [← hW10, ← hG10]
  clear hW10 hG10 hal ha9 hv9 hb89 y0 hbz9 HRB5 hb510 hb5 hbx7 z5 hbz5 HX5 HV5 HO8
  go_upto_region 5 with (go_at_call 21; refine (HRUN.out _ _ HRB10.out).mono ?_; rintro e w11 ⟨v11, x11, y11, rfl, ha11, hv11, hb1011⟩; obtain ⟨px11, cx11, qx11, dx11, rfl, rfl⟩ := hv11.slices; obtain ⟨b11, o11, ca11, rfl, hbz11, _, _, _, _, _⟩ := ans_cells ha11 HZ.out)
  rw [HXL.out]
  obtain ⟨G13, hG13⟩ : ∃ G, G = w11.heap.size := ⟨_, rfl⟩
  obtain ⟨W12, hW12⟩ : ∃ W, W = w11.alloc (.cells #[.slice px11 V.items.length cx11, .slice qx11 V.blocks.length dx11] 30) := ⟨_, rfl⟩
  have hal : Below w11.heap.size w11 W12 := by rw [hW12]; exact below_alloc (Below.refl _ _) _
  have hbx13 : VBox W12 G13 (.slice px11 V.items.length cx11) (.slice qx11 V.blocks.length dx11) := by rw [hW12, hG13]; exact VBox.new _ _ _
  have hb1012 : Below W10.heap.size W10 W12 := below_then hb1011 hal
  have hb12 := below_then hb10 hb1012
  have z12 := (hb1012.cell (p := ⟨b4, _, none⟩) hbz4').trans z10
  have y12 := (hb1012.cell (p := ⟨b9, _, none⟩) hbz9').trans y10
  rw [HYZ.out] at y12
  have hx12 := HX10.out.keep hb1012
  have hx12' := ha11.keep hal
  rw [RowsAt] at hx12 hx12'
  have HX12 := Lib.hid (HX10.out.keep hb1012)
  have HX12' := Lib.hid (ha11.keep hal)
  have HV12 := Lib.hid (HV10.out.keep hb1012)
  have HU12 := Lib.hid (HU10.out.keep hb1012)
  have HT12 := Lib.hid (hv11.keep hal)
  obtain ⟨a0, a1, _, _⟩ := (hbx7'.keep hb1012).at
  obtain ⟨a2, a3, _, _⟩ := (hbx10.keep hb1012).at
  obtain ⟨a4, a5, _, _⟩ := hbx13.at
  rw [← hW12, ← hG13]
  rw [HXL.out] at HX12 HX12'
  have hi0 : (0 : Int) ≤ (N : Int) := by omega
  have hi1 : (N : Int) < (N : Int) + 1 := by omega
  have hj0 : (0 : Int) ≤ (N : Int) + 1 := by omega
  have hj1 : (N : Int) + 1 < (N : Int) + 2 := by omega
  have hwk := IntWalk.i64_in (N : Int) (by omega)
  have hwl := IntWalk.i64_in ((N : Int) + 1) (by omega)
  clear hx12 hx12' hW12 hG13 hal ha11 hv11 hb1011 hbz11 HRB10 hb1012 hb10 hbx7' hbx10 hbx13 z10 y10 hbz4' hbz9' HX10 HV10 HU10
  rw [HBL.out]
  go_wp2
  go_quiet (first
    | (go_at_call 18; exact Calls.quiet_of (EqualZ_quiet _ _ V.blocks _ HV12.out.ints HU12.out.ints))
    | (go_at_call 18; exact Calls.quiet_of (EqualZ_quiet _ _ V.blocks _ HV12.out.ints HT12.out.ints))
    | (go_at_call 17; exact Calls.quiet_of (EqualI_quiet _ _ V.items _ HV12.out.items HU12.out.items))
    | (go_at_call 29; exact Calls.quiet_of (EqualA_quiet _ _ X _ HX12.out HX12'.out)))
  go_wp2
  go_ret
  exact ⟨rfl, below_dr hb12 _⟩
end Go.Proofs.YthjaanhkmfiajacGreatDoor.topTwice
