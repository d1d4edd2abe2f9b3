/- TopFlushed, walked. No condition but that the numbers are ints. -/
import Derived.Test.YthjaanhkmfiajacGreatDoorTopBase
namespace Go.Proofs.YthjaanhkmfiajacGreatDoor.topFlushed
open Go Go.RowKit

set_option maxRecDepth 100000 in
set_option maxHeartbeats 2000000 in
theorem walk (v : Value) (L : List Rw) (n : Int) (w : World) (h : RawsAt w v L) (hok : ∀ r ∈ L, RwOk r) (hn : -9223372036854775808 ≤ n ∧ n ≤ 9223372036854775807) :
    Calls Tryz.prog 5 #[v, .int .i64 n] w fun e w' => e = .returned (.bool true) ∧ Below w.heap.size w w' := by
  obtain ⟨i0, hi, hz0, hz1, hz2⟩ := info_parts infoAct
  have hA : Calls Tryz.prog 12 #[v, .int .i64 60] w (ActsRet 60 w) := Acts_any v L 60 (by omega) w h hok
  obtain ⟨kk, hkk, hk50⟩ := pick_nat n 50 (by omega)
  have hP := fun w => Picked_any n 50 hn (by omega) w
  rw [hkk] at hP
  have HP := Lib.hid hP
  have HA := Lib.hid hA
  clear h hok hA hn hkk hP
  go_enter Tryz.func5, Tryz.ntmps5
  go_upto_region 2 with (first
    | (go_at_call 12; refine HA.out.mono ?_; rintro e w0 ⟨v0, A, rfl, ho0, hl0, hg0⟩; obtain ⟨p0, c0, rfl⟩ := ho0.isSlice; have HO0 := Lib.hid ho0; have HG := Lib.hid hg0; clear ho0 hg0)
    | (at_builtin; refine wpList_own_rs actE rfl (.tmp 11) (.tmp 14) 23 rfl _ 36 i0 _ 40 Tryz.underlying23 hi hz0 rfl hz1 hz2 _ A rfl w [EM.act 5, EM.act 6] _ (HO0.out.past (below_alloc (Below.refl _ _) _)) (rows_new actE _ (by decide) _ _ _ rfl) rfl (by simp; omega) (by simp; omega) ?_; intro v1 w1 ho1 hg1))
  obtain ⟨p1, c1, rfl⟩ := ho1.isSlice
  have hl1 : (A ++ [EM.act 5, EM.act 6]).length ≤ 62 := by simp; omega
  have hok1 : ∀ a ∈ A ++ [EM.act 5, EM.act 6], ActOk a := ActOk.append HG.out (by intro a ha; simp at ha; rcases ha with rfl | rfl; exact kind_ok (by omega); exact kind_ok (by omega))
  have hfl := flushed_reads A (k := (kk : Int)) (by omega)
  generalize A ++ [EM.act 5, EM.act 6] = M at ho1 hl1 hok1 hfl ⊢
  have hra1 := ho1.rows actE (by omega)
  have hb1 : Below w.heap.size w w1 := ho1.below
  have HM := Lib.hid hok1
  have HFL := Lib.hid hfl
  have HRA1 := Lib.hid hra1
  clear ho1 hok1 hfl hra1 hg1 HO0 HA
  go_upto_region 3 with (go_at_call 26; refine (reads_at _ M (by omega) HM.out _ HRA1.out).mono ?_; rintro e w2 ⟨v2, rfl, hs2, hb12⟩)
  have hb2 := below_then hb1 hb12
  have HRA2 := Lib.hid (HRA1.out.keep hb12)
  have HS2 := Lib.hid hs2
  clear hs2 hb12 HRA1
  go_upto_region 4 with (first
    | (go_at_call 15; refine (CloneA_any _ M _ HRA2.out (by omega)).mono ?_; rintro e w3 ⟨v3, rfl, ho3⟩; obtain ⟨p3, c3, rfl⟩ := ho3.isSlice; have HO3 := Lib.hid ho3; clear ho3)
    | (go_at_call 23; refine (HP.out _).mono ?_; rintro e wp ⟨rfl, hb3p⟩; have HOP := Lib.hid (HO3.out.past hb3p); clear hb3p)
    | (go_at_call 22; refine (crash_c (kk : Int) _).mono ?_; rintro e w4 ⟨rfl, hb34⟩; have HO4 := Lib.hid (HOP.out.past hb34); clear hb34)
    | (at_builtin; refine wpList_own_r actE rfl (.tmp 23) (.tmp 27) 23 rfl _ 36 i0 _ 40 Tryz.underlying23 hi hz0 rfl hz1 hz2 _ M rfl w2 _ (EM.crash (kk : Int)) _ rfl HO4.out _ rfl (by simp) (by omega) (by omega) ?_; intro v5 w5 ho5 hg5; have HO5 := Lib.hid ho5; clear ho5 hg5 HO4 HO3 HOP)
    | (go_at_call 26; refine (reads_at _ (M ++ [EM.crash (kk : Int)]) (by simp; omega) (by intro a ha; rcases List.mem_append.1 ha with ha | ha; exact HM.out a ha; rw [List.mem_singleton.1 ha]; exact crash_ok (by omega)) _ (HO5.out.rows actE (by simp; omega))).mono ?_; rintro e w6 ⟨v6, rfl, hs6, hb56⟩))
  rw [HFL.out] at hs6
  have hb26 : Below w2.heap.size w2 w6 := below_then HO5.out.below hb56
  have hb6 := below_then hb2 hb26
  have HS6 := Lib.hid hs6
  have HS26 := Lib.hid (HS2.out.keep hb26)
  clear hs6 hb56 hb26 HRA2 HS2 HO5
  go_wp2_with (go_at_call 24; refine (EqualS_any _ _ (reads8 M) _ HS26.out HS6.out).mono ?_; rintro e w7 ⟨rfl, hb7⟩)
  go_ret
  exact ⟨rfl, below_then hb6 hb7⟩
end Go.Proofs.YthjaanhkmfiajacGreatDoor.topFlushed
